package bits_test

import (
	"bytes"
	"iter"
	"math"
	"slices"
	"testing"

	"attic/api"
	"attic/bits"
)

// run is where a run begins, and how many bits it has.
type run struct{ at, many int }

// taken are the runs that a range tells, at most so many.
func taken(s iter.Seq2[int, int], most int) []run {
	var out []run
	for at, many := range s {
		out = append(out, run{at, many})
		if len(out) >= most {
			break
		}
	}
	return out
}

func told(b []byte, n int) []run { return taken(bits.Runs(b, n), math.MaxInt) }

// runsOf is the document's rule put another way: a run begins behind a 0, and ends ahead of one.
func runsOf(l []bool) []run {
	var out []run
	for i, is := range l {
		if !is || i > 0 && l[i-1] {
			continue
		}
		end := i
		for end < len(l) && l[end] {
			end++
		}
		out = append(out, run{i, end - i})
	}
	return out
}

func wantRuns(t *testing.T, b []byte, n int, want []run) {
	t.Helper()
	if got := told(b, n); !slices.Equal(got, want) {
		t.Errorf("Runs(%v, %d): %v, not %v", b, n, got, want)
	}
}

func wantNext(t *testing.T, b []byte, n, from int, is bool, want int) {
	t.Helper()
	if got := bits.Next(b, n, from, is); got != want {
		t.Errorf("Next(%v, %d, %d, %v): %d, not %d", b, n, from, is, got, want)
	}
}

// nextOf is the document's rule, bit by bit, for an n that is not far.
func nextOf(l []bool, n, from int, is bool) int {
	for i := 0; i < n; i++ {
		if i >= from && (i < len(l) && l[i]) == is {
			return i
		}
	}
	return n
}

// P2.3: Next, at all places about a row.
func TestNext(t *testing.T) {
	for _, b := range samples() {
		l := spread(b)
		step := 1 + len(b)/4
		for n := -3; n <= len(l)+9; n += step {
			for from := -3; from <= len(l)+10; from += step {
				wantNext(t, b, n, from, true, nextOf(l, n, from, true))
				wantNext(t, b, n, from, false, nextOf(l, n, from, false))
			}
		}
	}
}

// P2.3: bits that a row does not have are 0, and n is the answer if there is none.
func TestNextBeyondTheRow(t *testing.T) {
	b := []byte{255, 127}
	for _, c := range []struct {
		n, from int
		is      bool
		want    int
	}{
		{16, 0, true, 0}, {16, 0, false, 15}, {16, 15, true, 16}, {15, 0, false, 15}, {15, 14, true, 14},
		{16, 16, true, 16}, {16, 16, false, 16}, {17, 16, false, 16}, {17, 17, false, 17}, {40, 30, false, 30}, {40, 40, false, 40}, {40, 41, false, 40},
		{40, 15, true, 40}, {40, 30, true, 40}, {10, 20, false, 10}, {10, 20, true, 10}, {10, -5, true, 0}, {0, 0, true, 0}, {0, 0, false, 0}, {0, -1, false, 0},
		{-5, 0, true, -5}, {-5, 0, false, -5}, {-5, -9, true, -5}, {-5, -9, false, -5},
		{math.MinInt, math.MaxInt, true, math.MinInt}, {math.MinInt, math.MaxInt, false, math.MinInt},
		{math.MinInt, math.MinInt, true, math.MinInt}, {math.MinInt, math.MinInt, false, math.MinInt}, {math.MinInt, 0, false, math.MinInt},
		{math.MinInt + 15, math.MaxInt, true, math.MinInt + 15}, {math.MinInt + 15, math.MaxInt, false, math.MinInt + 15},
		{math.MaxInt, math.MinInt, true, 0}, {math.MaxInt, math.MinInt, false, 15}, {math.MaxInt, 16, false, 16}, {math.MaxInt, 16, true, math.MaxInt},
		{math.MaxInt, math.MaxInt - 1, false, math.MaxInt - 1}, {math.MaxInt, math.MaxInt - 1, true, math.MaxInt},
		{math.MaxInt, math.MaxInt, false, math.MaxInt}, {math.MaxInt, math.MaxInt, true, math.MaxInt}, {16, math.MaxInt, false, 16}, {16, math.MaxInt, true, 16},
		{1 << 40, 1 << 39, false, 1 << 39}, {1 << 40, 1 << 39, true, 1 << 40},
	} {
		wantNext(t, b, c.n, c.from, c.is, c.want)
	}
	for _, none := range [][]byte{nil, {}} {
		wantNext(t, none, 0, 0, true, 0)
		wantNext(t, none, 0, 0, false, 0)
		wantNext(t, none, 5, 0, true, 5)
		wantNext(t, none, 5, -1, false, 0)
		wantNext(t, none, 5, 3, false, 3)
		wantNext(t, none, math.MaxInt, math.MinInt, true, math.MaxInt)
		wantNext(t, none, math.MaxInt, math.MinInt, false, 0)
	}
	wantNext(t, []byte{0, 255}[:1], 16, 0, true, 16)
	wantNext(t, []byte{255, 255}[:1], 16, 0, false, 8)
}

// P2.3, P2.6: Runs.
func TestRuns(t *testing.T) {
	for _, b := range samples() {
		l := spread(b)
		for n := range len(l) + 1 {
			wantRuns(t, b, n, runsOf(l[:n]))
		}
		for _, n := range []int{len(l) + 1, len(l) + 8, 1 << 20, math.MaxInt32, math.MaxInt - 7, math.MaxInt - 1, math.MaxInt} {
			wantRuns(t, b, n, runsOf(l))
		}
		for _, n := range []int{math.MinInt, math.MinInt + 1, -api.MaxBits, -8, -7, -1, 0} {
			wantRuns(t, b, n, nil)
		}
	}
}

func TestRunsAtTheEdges(t *testing.T) {
	wantRuns(t, []byte{0x6d, 0xc0}, 16, []run{{0, 1}, {2, 2}, {5, 2}, {14, 2}})
	wantRuns(t, []byte{0x6d, 0xc0}, 15, []run{{0, 1}, {2, 2}, {5, 2}, {14, 1}})
	wantRuns(t, []byte{0x6d, 0xc0}, 14, []run{{0, 1}, {2, 2}, {5, 2}})
	wantRuns(t, []byte{1}, 8, []run{{0, 1}})
	wantRuns(t, []byte{128}, 8, []run{{7, 1}})
	wantRuns(t, []byte{128}, 7, nil)
	wantRuns(t, []byte{128, 1}, 16, []run{{7, 2}})
	wantRuns(t, []byte{128, 1}, 8, []run{{7, 1}})
	wantRuns(t, []byte{192, 255, 3}, 24, []run{{6, 12}})
	wantRuns(t, []byte{127, 254}, 16, []run{{0, 7}, {9, 7}})
	wantRuns(t, []byte{255, 255}, 16, []run{{0, 16}})
	wantRuns(t, []byte{255, 255}[:1], 16, []run{{0, 8}})
	wantRuns(t, []byte{0, 0}, 16, nil)
	wantRuns(t, nil, 0, nil)
	wantRuns(t, []byte{}, 9, nil)
	const m = api.MaxBits
	wantRuns(t, bytes.Repeat([]byte{255}, m/8), m, []run{{0, m}})
	wantRuns(t, append(make([]byte, m/8-1), 128), m, []run{{m - 1, 1}})
}

// P2.6: a row is the Or of its runs' Spans, and a 0 stands between two runs.
func TestRunsMakeTheRow(t *testing.T) {
	d := dice(7)
	for range 400 {
		n := d.below(200)
		b := gather(spread(d.bytes(25))[:n])
		or, _ := bits.New(n)
		end := -1
		for at, many := range bits.Runs(b, n) {
			if many < 1 || at <= end || end >= 0 && bits.Next(b, at, end, false) == at {
				t.Fatalf("Runs(%v, %d): %d, %d behind a run that ends at %d", b, n, at, many, end)
			}
			span, e := bits.Span(n, at, at+many)
			if e != api.OK {
				t.Fatalf("Span(%d, %d, %d): %d", n, at, at+many, int(e))
			}
			or, _ = bits.Or(or, span)
			end = at + many
		}
		wantRow(t, "the Or of the runs' Spans", or, bits.Check(b, n), b)
	}
}

// R3: a range may stop at any point, and be done again.
func TestRunsStop(t *testing.T) {
	b := []byte{0x6d, 0xc0}
	all := []run{{0, 1}, {2, 2}, {5, 2}, {14, 2}}
	s := bits.Runs(b, 16)
	for most := 1; most <= len(all); most++ {
		for range 2 {
			if got := taken(s, most); !slices.Equal(got, all[:most]) {
				t.Errorf("at most %d runs: %v, not %v", most, got, all[:most])
			}
		}
		if got := taken(s, math.MaxInt); !slices.Equal(got, all) {
			t.Errorf("all runs behind %d of them: %v, not %v", most, got, all)
		}
	}
}

// A range that was stopped is not told anything more, not even the last run.
func TestRunsStaySilentBehindAStop(t *testing.T) {
	s := bits.Runs([]byte{0x6d, 0xc0}, 16)
	for most := 1; most <= 4; most++ {
		calls := 0
		s(func(int, int) bool {
			calls++
			return calls < most
		})
		if calls != most {
			t.Errorf("%d runs were told, %d asked for", calls, most)
		}
	}
}

// R3: two ranges over one iterator do not touch each other.
func TestRunsWithinRuns(t *testing.T) {
	all := []run{{0, 1}, {2, 2}, {5, 2}, {14, 2}}
	s := bits.Runs([]byte{0x6d, 0xc0}, 16)
	var outer []run
	for at, many := range s {
		outer = append(outer, run{at, many})
		if inner := taken(s, math.MaxInt); !slices.Equal(inner, all) {
			t.Errorf("a range within: %v, not %v", inner, all)
		}
	}
	if !slices.Equal(outer, all) {
		t.Errorf("a range about others: %v, not %v", outer, all)
	}
}

// R3: Runs tells what was there when it was asked for.
func TestRunsTellWhatWasThere(t *testing.T) {
	for _, n := range []int{16, 20, math.MaxInt} {
		b := []byte{0x6d, 0xc0}
		all := []run{{0, 1}, {2, 2}, {5, 2}, {14, 2}}
		s := bits.Runs(b, n)
		b[0], b[1] = 255, 0
		if got := taken(s, math.MaxInt); !slices.Equal(got, all) {
			t.Errorf("Runs behind a change: %v, not %v", got, all)
		}
		var got []run
		for at, many := range s {
			got = append(got, run{at, many})
			b[0], b[1] = byte(at), byte(many)
		}
		if !slices.Equal(got, all) {
			t.Errorf("Runs amid changes: %v, not %v", got, all)
		}
		b[0], b[1] = 1, 0
		if got := taken(s, math.MaxInt); !slices.Equal(got, all) {
			t.Errorf("Runs once more, behind a change: %v, not %v", got, all)
		}
		wantRuns(t, b, n, []run{{0, 1}})
	}
}

// R1, THE BOUND: rows of any length, as many bits as they have.
func TestLongRows(t *testing.T) {
	const many = 1 << 20
	b := bytes.Repeat([]byte{0x55}, many)
	count := 0
	for at, n := range bits.Runs(b, math.MaxInt) {
		if at != 2*count || n != 1 {
			t.Fatalf("the run %d of a long row: %d, %d", count, at, n)
		}
		count++
	}
	if count != 4*many || bits.Count(b) != 4*many {
		t.Errorf("a long row has %d runs, %d bits", count, bits.Count(b))
	}
	wantNextLong := func(from int, is bool, want int) {
		t.Helper()
		if got := bits.Next(b, math.MaxInt, from, is); got != want {
			t.Errorf("Next of a long row, from %d, %v: %d, not %d", from, is, got, want)
		}
	}
	wantNextLong(8*many-1, true, math.MaxInt)
	wantNextLong(8*many-1, false, 8*many-1)
	wantNextLong(8*many-2, true, 8*many-2)
	clear(b)
	wantNextLong(0, true, math.MaxInt)
	wantCheck(t, b, api.MaxBits, api.ErrBits)
	b = bits.Put(b, 8*many-1, true)
	wantNextLong(0, true, 8*many-1)
}
