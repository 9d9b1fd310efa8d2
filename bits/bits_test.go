package bits_test

import (
	"bytes"
	"math"
	"slices"
	"testing"

	"attic/api"
	"attic/bits"
)

// dice is a row of numbers that is the same in each run.
type dice uint64

func (d *dice) next() uint64 {
	*d += 0x9e3779b97f4a7c15
	z := uint64(*d)
	z = (z ^ z>>30) * 0xbf58476d1ce4e5b9
	z = (z ^ z>>27) * 0x94d049bb133111eb
	return z ^ z>>31
}

func (d *dice) below(n int) int { return int(d.next() % uint64(n)) }

// bytes are full, empty or mixed ones: so there are long runs, and runs over a byte's end.
func (d *dice) bytes(n int) []byte {
	b := make([]byte, n)
	for i := range b {
		switch d.below(4) {
		case 0:
			b[i] = 255
		case 1:
			b[i] = 0
		default:
			b[i] = byte(d.next())
		}
	}
	return b
}

// spread is the document's rule put another way: a bool a bit, found by division.
func spread(b []byte) []bool {
	var out []bool
	for _, c := range b {
		for range 8 {
			out = append(out, c%2 == 1)
			c /= 2
		}
	}
	return out
}

// gather is spread's way back.
func gather(l []bool) []byte {
	b := make([]byte, (len(l)+7)/8)
	for i, is := range l {
		if is {
			b[i/8] += []byte{1, 2, 4, 8, 16, 32, 64, 128}[i%8]
		}
	}
	return b
}

// samples are rows of all kinds: none, one of each byte, and longer ones.
func samples() [][]byte {
	out := [][]byte{nil, {}}
	for c := range 256 {
		out = append(out, []byte{byte(c)})
	}
	d := dice(1)
	for n := range 24 {
		out = append(out, d.bytes(n), d.bytes(n), bytes.Repeat([]byte{255}, n), make([]byte, n))
	}
	return append(out, []byte{128, 1}, []byte{127, 254}, []byte{0, 255, 0}, []byte{1, 0, 128})
}

// far are numbers that no row's bits have.
var far = []int{math.MinInt, math.MinInt + 1, math.MinInt / 2, math.MinInt32, -api.MaxBits, -9, -8, -7, -1,
	1 << 20, math.MaxInt32, math.MaxInt / 2, math.MaxInt - 7, math.MaxInt - 1, math.MaxInt}

// wrongSizes are numbers of bits that no row has.
var wrongSizes = append([]int{api.MaxBits + 1, api.MaxBits + 7, api.MaxBits + 8}, far...)

// sizes are numbers of bits about a byte's end, and about the greatest one.
func sizes() []int {
	var out []int
	for n := range 40 {
		out = append(out, n)
	}
	return append(out, 255, 256, 257, api.MaxBits-9, api.MaxBits-8, api.MaxBits-7, api.MaxBits-1, api.MaxBits)
}

func wantRow(t *testing.T, what string, got []byte, e api.Errno, want []byte) {
	t.Helper()
	if e != api.OK || !bytes.Equal(got, want) {
		t.Errorf("%s: %v, %d, not %v, 0", what, got, int(e), want)
	}
}

func wantError(t *testing.T, what string, got []byte, e, want api.Errno) {
	t.Helper()
	if e != want || len(got) != 0 {
		t.Errorf("%s: %v, %d, not nothing, %d", what, got, int(e), int(want))
	}
}

func TestNumbersOfTheChapter(t *testing.T) {
	if api.OK != 0 || api.ErrArg != 1 || api.ErrBits != 20 || api.MaxBits != 65536 {
		t.Error("OK, ErrArg, ErrBits, MaxBits:", int(api.OK), int(api.ErrArg), int(api.ErrBits), api.MaxBits)
	}
}

// The chapter's example.
func TestExample(t *testing.T) {
	b, e := bits.Span(10, 3, 9)
	wantRow(t, "Span(10, 3, 9)", b, e, []byte{248, 1})
	if i := bits.Next(b, 10, 0, true); i != 3 {
		t.Errorf("Next(b, 10, 0, true): %d, not 3", i)
	}
	if i := bits.Next(b, 10, 4, false); i != 9 {
		t.Errorf("Next(b, 10, 4, false): %d, not 9", i)
	}
	if l := told(b, 10); !slices.Equal(l, []run{{3, 6}}) {
		t.Errorf("Runs(b, 10): %v, not 3, 6", l)
	}
}

// P2.1: New.
func TestNew(t *testing.T) {
	for _, n := range sizes() {
		b, e := bits.New(n)
		wantRow(t, "New", b, e, make([]byte, (n+7)/8))
	}
	for _, n := range wrongSizes {
		b, e := bits.New(n)
		wantError(t, "New of a wrong n", b, e, api.ErrArg)
	}
}

// P2.1: Span, at all places of short rows.
func TestSpan(t *testing.T) {
	for n := range 36 {
		for from := -2; from <= n+2; from++ {
			for to := -2; to <= n+2; to++ {
				b, e := bits.Span(n, from, to)
				if from < 0 || from > to || to > n {
					wantError(t, "Span", b, e, api.ErrArg)
					continue
				}
				l := make([]bool, n)
				for i := from; i < to; i++ {
					l[i] = true
				}
				wantRow(t, "Span", b, e, gather(l))
			}
		}
	}
}

func TestSpanAtTheGreatestSize(t *testing.T) {
	const m = api.MaxBits
	b, e := bits.Span(m, 0, m)
	wantRow(t, "Span of all", b, e, bytes.Repeat([]byte{255}, m/8))
	b, e = bits.Span(m, m, m)
	wantRow(t, "Span of none", b, e, make([]byte, m/8))
	b, e = bits.Span(m, m-1, m)
	wantRow(t, "Span of the last bit", b, e, append(make([]byte, m/8-1), 128))
	b, e = bits.Span(m-1, 0, m-1)
	wantRow(t, "Span of all but one", b, e, append(bytes.Repeat([]byte{255}, m/8-1), 127))
	b, e = bits.Span(m, 0, m+1)
	wantError(t, "Span beyond n", b, e, api.ErrArg)
	b, e = bits.Span(m+1, 0, m+1)
	wantError(t, "Span of too great an n", b, e, api.ErrArg)
}

func TestSpanWrong(t *testing.T) {
	for _, n := range wrongSizes {
		for _, from := range []int{math.MinInt, -1, 0, n, math.MaxInt} {
			for _, to := range []int{math.MinInt, -1, 0, n, math.MaxInt} {
				b, e := bits.Span(n, from, to)
				wantError(t, "Span of a wrong n", b, e, api.ErrArg)
			}
		}
	}
	for _, x := range far {
		for _, y := range []int{math.MinInt, -1, 0, 3, 10, math.MaxInt} {
			b, e := bits.Span(10, x, y)
			wantError(t, "Span from afar", b, e, api.ErrArg)
			b, e = bits.Span(10, y, x)
			wantError(t, "Span to afar", b, e, api.ErrArg)
		}
	}
}

// P2.1: Check, of each length and each bit behind n.
func TestCheck(t *testing.T) {
	d := dice(2)
	for n := range 36 {
		l := spread(d.bytes(5))[:n]
		b := gather(l)
		wantCheck(t, b, n, api.OK)
		wantCheck(t, gather(make([]bool, n)), n, api.OK)
		full, _ := bits.Span(n, 0, n)
		wantCheck(t, full, n, api.OK)
		wantCheck(t, append(slices.Clone(b), 0), n, api.ErrBits)
		wantCheck(t, append(slices.Clone(b), 1), n, api.ErrBits)
		if len(b) > 0 {
			wantCheck(t, b[:len(b)-1], n, api.ErrBits)
			wantCheck(t, nil, n, api.ErrBits)
		}
		for i := n; i < 8*len(b); i++ {
			more := slices.Clone(b)
			more[i/8] |= 1 << (i % 8)
			wantCheck(t, more, n, api.ErrBits)
		}
	}
}

func TestCheckAtTheGreatestSize(t *testing.T) {
	const m = api.MaxBits
	full := bytes.Repeat([]byte{255}, m/8)
	wantCheck(t, full, m, api.OK)
	wantCheck(t, full, m-1, api.ErrBits)
	wantCheck(t, append(slices.Clone(full[1:]), 127), m-1, api.OK)
	wantCheck(t, full[1:], m, api.ErrBits)
	wantCheck(t, append(slices.Clone(full), 0), m, api.ErrBits)
	wantCheck(t, append(slices.Clone(full), 1), m+1, api.ErrArg)
}

func TestCheckWrong(t *testing.T) {
	for _, n := range wrongSizes {
		wantCheck(t, nil, n, api.ErrArg)
		wantCheck(t, []byte{}, n, api.ErrArg)
		wantCheck(t, []byte{255, 255}, n, api.ErrArg)
	}
	for _, b := range [][]byte{nil, {}} {
		wantCheck(t, b, 0, api.OK)
		wantCheck(t, b, 1, api.ErrBits)
		wantCheck(t, b, api.MaxBits, api.ErrBits)
	}
}

// Bytes behind a slice's end are none of it, though it has room for them.
func TestCheckStopsAtTheLength(t *testing.T) {
	b := []byte{3, 255}
	wantCheck(t, b[:1], 2, api.OK)
	wantCheck(t, b[:1], 9, api.ErrBits)
	wantCheck(t, b[:0], 0, api.OK)
}

func wantCheck(t *testing.T, b []byte, n int, want api.Errno) {
	t.Helper()
	if e := bits.Check(b, n); e != want {
		t.Errorf("Check of %d bytes, %d: %d, not %d", len(b), n, int(e), int(want))
	}
}

// P2.2: Get.
func TestGet(t *testing.T) {
	for _, b := range samples() {
		for i, want := range spread(b) {
			if bits.Get(b, i) != want {
				t.Errorf("Get(%v, %d): not %v", b, i, want)
			}
		}
		for _, i := range append([]int{8 * len(b), 8*len(b) + 1, 8*len(b) + 8}, far...) {
			if bits.Get(b, i) {
				t.Errorf("Get(%v, %d): true", b, i)
			}
		}
	}
	if b := []byte{0, 255}; bits.Get(b[:1], 8) {
		t.Error("Get goes behind a slice's end")
	}
}

// P2.2, P2.7: Put.
func TestPut(t *testing.T) {
	for _, b := range samples() {
		for i := range 8 * len(b) {
			for _, is := range []bool{true, false} {
				l := spread(b)
				l[i] = is
				got := bits.Put(b, i, is)
				wantRow(t, "Put", got, api.OK, gather(l))
				if bits.Get(got, i) != is {
					t.Errorf("Get of Put(%v, %d, %v)", b, i, is)
				}
			}
		}
	}
}

func TestPutOfNoBit(t *testing.T) {
	for _, b := range samples() {
		for _, i := range append([]int{8 * len(b), 8*len(b) + 1, 8*len(b) + 8}, far...) {
			for _, is := range []bool{true, false} {
				got := bits.Put(b, i, is)
				wantRow(t, "Put of no bit", got, api.OK, b)
				if bits.Get(got, i) {
					t.Errorf("Get(%v, %d): true", got, i)
				}
			}
		}
	}
	b := []byte{1, 2}
	wantRow(t, "Put behind a slice's end", bits.Put(b[:1], 8, true), api.OK, []byte{1})
}

// P2.2: Count.
func TestCount(t *testing.T) {
	for _, b := range samples() {
		want := 0
		for _, is := range spread(b) {
			if is {
				want++
			}
		}
		if got := bits.Count(b); got != want {
			t.Errorf("Count(%v): %d, not %d", b, got, want)
		}
	}
	if got := bits.Count(bytes.Repeat([]byte{255}, 1<<16)); got != 8<<16 {
		t.Errorf("Count of a long row: %d", got)
	}
}

// P2.5, P2.4: And, Or, Sub, by their bits and by their counts.
func TestJoins(t *testing.T) {
	d := dice(3)
	for _, a := range samples() {
		for _, b := range [][]byte{a, make([]byte, len(a)), bytes.Repeat([]byte{255}, len(a)), d.bytes(len(a)), d.bytes(len(a))} {
			wantJoins(t, a, b)
			wantJoins(t, b, a)
		}
	}
	wantJoins(t, []byte{12}, []byte{10})
	wantJoins(t, d.bytes(api.MaxBits), d.bytes(api.MaxBits))
}

func wantJoins(t *testing.T, a, b []byte) {
	t.Helper()
	x, y := spread(a), spread(b)
	and, e := bits.And(a, b)
	wantRow(t, "And", and, e, joined(x, y, func(p, q bool) bool { return p && q }))
	or, e := bits.Or(a, b)
	wantRow(t, "Or", or, e, joined(x, y, func(p, q bool) bool { return p || q }))
	sub, e := bits.Sub(a, b)
	wantRow(t, "Sub", sub, e, joined(x, y, func(p, q bool) bool { return p && !q }))
	if bits.Count(or)+bits.Count(and) != bits.Count(a)+bits.Count(b) {
		t.Errorf("Or's and And's counts are not those of %v and %v", a, b)
	}
	if bits.Count(and)+bits.Count(sub) != bits.Count(a) {
		t.Errorf("And's and Sub's counts are not that of %v, with %v", a, b)
	}
	if bits.Within(a, b) != (bits.Count(sub) == 0) {
		t.Errorf("Within(%v, %v): %v", a, b, bits.Within(a, b))
	}
}

func joined(x, y []bool, both func(p, q bool) bool) []byte {
	out := make([]bool, len(x))
	for i := range x {
		out[i] = both(x[i], y[i])
	}
	return gather(out)
}

// P2.4: rows of unlike lengths.
func TestJoinsOfUnlikeLengths(t *testing.T) {
	d := dice(4)
	for n := range 9 {
		for m := range 9 {
			if n == m {
				continue
			}
			for _, a := range [][]byte{d.bytes(n), make([]byte, n)} {
				for _, b := range [][]byte{d.bytes(m), make([]byte, m)} {
					wantNoJoins(t, a, b)
				}
			}
		}
	}
	wantNoJoins(t, nil, []byte{0})
	wantNoJoins(t, []byte{0}, nil)
	wantJoins(t, nil, []byte{})
	wantJoins(t, []byte{}, nil)
}

func wantNoJoins(t *testing.T, a, b []byte) {
	t.Helper()
	and, e := bits.And(a, b)
	wantError(t, "And", and, e, api.ErrBits)
	or, e := bits.Or(a, b)
	wantError(t, "Or", or, e, api.ErrBits)
	sub, e := bits.Sub(a, b)
	wantError(t, "Sub", sub, e, api.ErrBits)
}

// P2.4: Within, of any lengths.
func TestWithin(t *testing.T) {
	for _, c := range []struct {
		a, b []byte
		want bool
	}{
		{nil, nil, true}, {nil, []byte{}, true}, {nil, []byte{255}, true}, {[]byte{}, []byte{0}, true},
		{[]byte{0, 0}, nil, true}, {[]byte{0, 1}, nil, false}, {[]byte{128}, []byte{}, false},
		{[]byte{8, 0, 0}, []byte{12}, true}, {[]byte{8, 1}, []byte{12}, false}, {[]byte{8, 0, 128}, []byte{12}, false},
		{[]byte{8}, []byte{12, 255}, true}, {[]byte{8}, []byte{4, 255}, false},
		{[]byte{12}, []byte{8}, false}, {[]byte{255, 255}, []byte{255, 127}, false}, {[]byte{255, 255}, []byte{254, 255}, false},
	} {
		if got := bits.Within(c.a, c.b); got != c.want {
			t.Errorf("Within(%v, %v): %v, not %v", c.a, c.b, got, c.want)
		}
	}
}

func TestWithinOfAnyLengths(t *testing.T) {
	d := dice(5)
	for range 3000 {
		b := d.bytes(d.below(6))
		a := slices.Clone(b)
		if d.below(2) == 0 && len(a) > 0 {
			a = a[:d.below(len(a))]
		} else {
			a = append(a, make([]byte, d.below(4))...)
		}
		for i := range a {
			a[i] &= byte(d.next())
		}
		if !bits.Within(a, b) {
			t.Errorf("Within(%v, %v): false", a, b)
		}
		if len(a) == 0 {
			continue
		}
		i := d.below(8 * len(a))
		more := bits.Put(a, i, true)
		if bits.Within(more, b) != bits.Get(b, i) {
			t.Errorf("Within(%v, %v): %v", more, b, !bits.Get(b, i))
		}
	}
}

// R3: what is handed in is left as it is, and no answer shares its memory.
func TestAnswersAreApart(t *testing.T) {
	room := func(l ...byte) []byte { return append(make([]byte, 0, 64), l...) }
	a, b := room(1, 2, 3), room(4, 6, 12)
	put, same := bits.Put(a, 4, true), bits.Put(a, 99, true)
	and, _ := bits.And(a, b)
	or, _ := bits.Or(a, b)
	sub, _ := bits.Sub(a, b)
	answers := [][]byte{put, same, bits.Put(a, 0, true), and, or, sub}
	wants := [][]byte{{17, 2, 3}, {1, 2, 3}, {1, 2, 3}, {0, 2, 0}, {5, 6, 15}, {1, 0, 3}}
	for i, l := range answers {
		wantRow(t, "an answer", l, api.OK, wants[i])
	}
	for i := range a {
		a[i], b[i] = 200, 201
	}
	for i, l := range answers {
		wantRow(t, "an answer behind its arguments' change", l, api.OK, wants[i])
		for k := range l {
			l[k] = byte(100 + i)
		}
		_ = append(l, 99, 99)
	}
	for i, l := range answers {
		wantRow(t, "an answer behind another one's change", l, api.OK, bytes.Repeat([]byte{byte(100 + i)}, 3))
	}
	if !bytes.Equal(a[:5], []byte{200, 200, 200, 0, 0}) || !bytes.Equal(b[:5], []byte{201, 201, 201, 0, 0}) {
		t.Errorf("what was handed in goes with an answer: %v, %v", a[:5], b[:5])
	}
}

func TestMadeRowsAreApart(t *testing.T) {
	for _, n := range []int{8, api.MaxBits} {
		a, _ := bits.New(n)
		b, _ := bits.Span(n, 0, n)
		a[0], b[0] = 77, 78
		c, e := bits.New(n)
		wantRow(t, "New behind a change", c, e, make([]byte, n/8))
		c, e = bits.Span(n, 0, n)
		wantRow(t, "Span behind a change", c, e, bytes.Repeat([]byte{255}, n/8))
	}
}

// R3: no call writes to what it is handed, whatever it answers.
func TestNothingIsWrittenTo(t *testing.T) {
	d := dice(6)
	for range 500 {
		a, b := d.bytes(d.below(5)), d.bytes(d.below(5))
		x, y := slices.Clone(a), slices.Clone(b)
		i, n := d.below(48)-4, d.below(48)-4
		bits.Check(a, n)
		bits.Get(a, i)
		bits.Put(a, i, d.below(2) == 0)
		bits.Count(a)
		bits.Next(a, n, i, d.below(2) == 0)
		told(a, n)
		bits.And(a, b)
		bits.Or(a, b)
		bits.Sub(a, b)
		bits.Within(a, b)
		if !bytes.Equal(a, x) || !bytes.Equal(b, y) {
			t.Fatalf("%v and %v were written to: %v, %v", x, y, a, b)
		}
	}
}
