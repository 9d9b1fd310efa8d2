package replay_test

import (
	"bytes"
	"math"
	"slices"
	"testing"

	"attic/api"
	"attic/record"
	"attic/replay"
)

// dice is a row of numbers that is the same in each run.
type dice uint64

func (d *dice) next() uint64 {
	*d += 0x9e3779b97f4a7c15
	z := uint64(*d)
	z = (z ^ z>>30) * 0xbf58476d1ce4e5b9
	z = (z ^ z>>27) * 0x94d049bb133111eb
	return z ^ z>>31
}

func (d *dice) from(low, high int) int { return low + int(d.next()%uint64(high-low+1)) }

func (d *dice) bytes(n int) []byte {
	b := make([]byte, n)
	for i := range b {
		b[i] = byte(d.next())
	}
	return b
}

// patch is one of few blocks and of any bytes, so that patches lie one over the other.
func (d *dice) patch() api.Record {
	n := d.from(1, 44)
	return patch(d.from(0, 3), d.from(0, 256-n), d.bytes(n)...)
}

// records are such patches, and commits among them.
func (d *dice) records(n int) []api.Record {
	var l []api.Record
	for range n {
		if d.from(0, 4) == 0 {
			l = append(l, commit(d.from(0, 1<<16)))
		} else {
			l = append(l, d.patch())
		}
	}
	return l
}

func patch(block, off int, data ...byte) api.Record {
	return api.Record{Kind: api.RcPatch, Block: block, Off: off, Data: data}
}

func commit(many int) api.Record { return api.Record{Kind: api.RcCommit, Many: many} }

// row is n bytes that are all c.
func row(n int, c byte) []byte { return bytes.Repeat([]byte{c}, n) }

// with is a page with a byte set at each of some places.
func with(page []byte, c byte, at ...int) []byte {
	b := bytes.Clone(page)
	for _, i := range at {
		b[i] = c
	}
	return b
}

// badPatches are patches of a block that may not be: each has one thing that is wrong.
func badPatches(block int) []api.Record {
	out := []api.Record{
		patch(block, 0), patch(block, 256), {Kind: api.RcPatch, Block: block, Data: []byte{}},
		patch(block, 0, row(45, 1)...), patch(block, 0, row(256, 1)...), patch(block, 0, row(300, 1)...),
		patch(block, -1, 1), patch(block, 256, 1), patch(block, 213, row(44, 1)...), patch(block, 255, 1, 2),
		patch(block, math.MinInt, 1), patch(block, math.MaxInt, 1), patch(block, math.MaxInt, 1, 2),
	}
	for _, many := range []int{math.MinInt, -1, 1, 2, math.MaxInt} {
		r := patch(block, 5, 1)
		r.Many = many
		out = append(out, r)
	}
	return out
}

// bads are records that may not be: patches of good and of bad blocks, commits, and neither.
func bads() []api.Record {
	out := slices.Concat(badPatches(0), badPatches(1), badPatches(2047))
	for _, block := range []int{math.MinInt, -2048, -1, 2048, 2049, math.MaxInt} {
		out = append(out, patch(block, 0, 1))
	}
	for _, many := range []int{math.MinInt, -2, -1, 1<<16 + 1, 1 << 32, math.MaxInt} {
		out = append(out, commit(many))
	}
	for many := range 4 {
		out = append(out,
			api.Record{Kind: api.RcCommit, Many: many, Block: 1},
			api.Record{Kind: api.RcCommit, Many: many, Block: -1},
			api.Record{Kind: api.RcCommit, Many: many, Off: 1},
			api.Record{Kind: api.RcCommit, Many: many, Data: []byte{0}})
	}
	for _, kind := range []int{math.MinInt, -2, -1, 0, 3, 4, 257, 258, math.MaxInt} {
		out = append(out,
			api.Record{Kind: kind}, api.Record{Kind: kind, Many: 1}, api.Record{Kind: kind, Many: 2},
			api.Record{Kind: kind, Block: 1, Data: []byte{1}}, api.Record{Kind: kind, Block: 1, Off: 3, Data: []byte{1, 2}})
	}
	return out
}

// mayBe is chapter 6's rule, without the package record.
func mayBe(r api.Record) bool {
	switch r.Kind {
	case 1:
		size := len(r.Data)
		return 0 <= r.Block && r.Block < 2048 && 1 <= size && size <= 44 && 0 <= r.Off && r.Off <= 256-size && r.Many == 0
	case 2:
		return 0 <= r.Many && r.Many <= 65536 && r.Block == 0 && r.Off == 0 && len(r.Data) == 0
	}
	return false
}

// equal holds records against each other without the package record.
func equal(a, b api.Record) bool {
	return a.Kind == b.Kind && a.Block == b.Block && a.Off == b.Off && a.Many == b.Many && string(a.Data) == string(b.Data)
}

// own is records with Data of their own, written out.
func own(l []api.Record) []api.Record {
	var out []api.Record
	for _, x := range l {
		x.Data = append([]byte(nil), x.Data...)
		out = append(out, x)
	}
	return out
}

// briefly is records for a message: kind, block, place, patches of a commit, how many bytes and the first ones.
func briefly(l []api.Record) [][]any {
	var out [][]any
	for _, r := range l[:min(len(l), 12)] {
		out = append(out, []any{r.Kind, r.Block, r.Off, r.Many, len(r.Data), r.Data[:min(len(r.Data), 4)]})
	}
	return out
}

func want(t *testing.T, what string, got, want api.Errno) {
	t.Helper()
	if got != want {
		t.Fatalf("%s: error %d, not %d", what, int(got), int(want))
	}
}

func wantList(t *testing.T, what string, got, want []api.Record) {
	t.Helper()
	if !slices.EqualFunc(got, want, equal) {
		t.Fatalf("%s: %v, not %v", what, briefly(got), briefly(want))
	}
}

func wantPage(t *testing.T, what string, got, want []byte) {
	t.Helper()
	if !bytes.Equal(got, want) {
		t.Fatalf("%s: %v, not %v", what, got, want)
	}
}

func TestNumbers(t *testing.T) {
	if api.MaxCut != 6 || api.MaxPatch != 44 || api.MaxBlocks != 2048 || api.BlockBytes != 256 || api.MaxMany != 1<<16 {
		t.Error("the limits")
	}
	if api.OK != 0 || api.ErrArg != 1 || api.ErrRecord != 60 || api.RcPatch != 1 || api.RcCommit != 2 {
		t.Error("the errors' numbers and the kinds")
	}
}

// The records that the tests call wrong are, each of them.
func TestBads(t *testing.T) {
	for _, r := range bads() {
		if mayBe(r) || record.Check(r) != api.ErrRecord {
			t.Errorf("%v may be", briefly([]api.Record{r}))
		}
	}
}

// The chapter's example 1.
func TestExampleCommitted(t *testing.T) {
	a, b, c := patch(1, 2, 3), patch(4, 5, 6), patch(7, 8, 9)
	got, n := replay.Committed(a, b, commit(2), c, commit(2))
	wantList(t, "Committed", got, []api.Record{a, b})
	if n != 3 {
		t.Errorf("%d records", n)
	}
}

// The chapter's example 2.
func TestExampleCut(t *testing.T) {
	old := make([]byte, 256)
	got, e := replay.Cut(9, old, with(old, 1, 3, 5, 50))
	want(t, "Cut", e, api.OK)
	wantList(t, "Cut", got, []api.Record{patch(9, 3, 1, 0, 1), patch(9, 50, 1)})
}
