package super_test

import (
	"math"
	"testing"

	"attic/api"
	"attic/super"
)

const most = 1 << 60 // the greatest Epoch, and the greatest Head

// dice is a row of numbers that is the same in each run.
type dice uint64

func (d *dice) next() uint64 {
	*d += 0x9e3779b97f4a7c15
	z := uint64(*d)
	z = (z ^ z>>30) * 0xbf58476d1ce4e5b9
	z = (z ^ z>>27) * 0x94d049bb133111eb
	return z ^ z>>31
}

func (d *dice) from(low, high int) int { return low + int(d.next()%uint64(high-low+1)) }

func (d *dice) bytes(n int) []byte {
	b := make([]byte, n)
	for i := range b {
		b[i] = byte(d.next())
	}
	return b
}

// example is the geometry of the chapter's example.
var example = api.Geometry{Blocks: 60, Log: 8, Dir: 4, Extents: 8}

// good are geometries that may be: the example's, the least and the greatest.
var good = []api.Geometry{
	example,
	{Blocks: 18, Log: 8, Dir: 1, Extents: 1},
	{Blocks: 1359, Log: 256, Dir: 64, Extents: 256},
	{Blocks: 2048, Log: 256, Dir: 64, Extents: 256},
}

// bad are geometries that may not be: each field out of its range, the others in theirs.
var bad = []api.Geometry{
	{},
	{Blocks: 17, Log: 8, Dir: 1, Extents: 1},
	{Blocks: 2049, Log: 8, Dir: 1, Extents: 1},
	{Blocks: -60, Log: 8, Dir: 4, Extents: 8},
	{Blocks: math.MinInt, Log: 8, Dir: 4, Extents: 8},
	{Blocks: math.MaxInt, Log: 8, Dir: 4, Extents: 8},
	{Blocks: 60 + 1<<32, Log: 8, Dir: 4, Extents: 8},
	{Blocks: 60, Log: 7, Dir: 4, Extents: 8},
	{Blocks: 2048, Log: 257, Dir: 4, Extents: 8},
	{Blocks: 60, Log: -8, Dir: 4, Extents: 8},
	{Blocks: 60, Log: math.MinInt, Dir: 4, Extents: 8},
	{Blocks: 60, Log: math.MaxInt, Dir: 4, Extents: 8},
	{Blocks: 60, Log: 8 + 1<<32, Dir: 4, Extents: 8},
	{Blocks: 60, Log: 8, Dir: 0, Extents: 8},
	{Blocks: 2048, Log: 8, Dir: 65, Extents: 8},
	{Blocks: 60, Log: 8, Dir: math.MinInt, Extents: 8},
	{Blocks: 60, Log: 8, Dir: math.MaxInt, Extents: 8},
	{Blocks: 60, Log: 8, Dir: 4, Extents: 0},
	{Blocks: 2048, Log: 8, Dir: 4, Extents: 257},
	{Blocks: 60, Log: 8, Dir: 4, Extents: math.MinInt},
	{Blocks: 60, Log: 8, Dir: 4, Extents: math.MaxInt},
	{Blocks: math.MinInt, Log: math.MinInt, Dir: math.MinInt, Extents: math.MinInt},
	{Blocks: math.MaxInt, Log: math.MaxInt, Dir: math.MaxInt, Extents: math.MaxInt},
}

// goodEpochs and goodHeads may be, badEpochs and badHeads may not.
var (
	goodEpochs = []int64{1, 2, 3, 255, 256, 1<<32 - 1, 1 << 32, 0x0102030405060708, most - 1, most}
	badEpochs  = []int64{math.MinInt64, math.MinInt64 + 1, math.MinInt64 + 2, -most, -2, -1, 0, most + 1, most + 2, 1 << 61, math.MaxInt64 - 1, math.MaxInt64}
	goodHeads  = []int64{0, 1, 32, 255, 256, 1 << 32, 0x0807060504030201, most - 1, most}
	badHeads   = []int64{math.MinInt64, math.MinInt64 + 1, -most, -32, -2, -1, most + 1, most + 2, 1 << 61, math.MaxInt64 - 1, math.MaxInt64}
)

// several are supers that may be, of all geometries, Epochs and Heads.
func several() []api.Super {
	var out []api.Super
	for _, g := range good {
		for _, epoch := range goodEpochs {
			for _, head := range goodHeads {
				out = append(out, api.Super{Epoch: epoch, G: g, Head: head})
			}
		}
	}
	d := dice(5)
	for range 50 {
		g := api.Geometry{Blocks: d.from(1359, 2048), Log: d.from(8, 256), Dir: d.from(1, 64), Extents: d.from(1, 256)}
		out = append(out, api.Super{Epoch: 1 + int64(d.next()%most), G: g, Head: int64(d.next() % (most + 1))})
	}
	return out
}

// wrong are supers that may not be, and the error that Check says of each.
func wrong() map[api.Super]api.Errno {
	out := map[api.Super]api.Errno{}
	for _, g := range bad {
		for _, epoch := range append(badEpochs, goodEpochs...) {
			for _, head := range append(badHeads, goodHeads...) {
				out[api.Super{Epoch: epoch, G: g, Head: head}] = api.ErrGeom
			}
		}
	}
	for _, g := range good {
		for _, epoch := range badEpochs {
			for _, head := range append(badHeads, goodHeads...) {
				out[api.Super{Epoch: epoch, G: g, Head: head}] = api.ErrCorrupt
			}
		}
		for _, epoch := range goodEpochs {
			for _, head := range badHeads {
				out[api.Super{Epoch: epoch, G: g, Head: head}] = api.ErrCorrupt
			}
		}
	}
	return out
}

func bytesOf(t *testing.T, s api.Super) []byte {
	t.Helper()
	b, e := super.Bytes(s)
	if e != api.OK {
		t.Fatalf("Bytes(%v): error %d", s, int(e))
	}
	return b
}

func nextOf(t *testing.T, s api.Super, head int64) api.Super {
	t.Helper()
	n, e := super.Next(s, head)
	if e != api.OK {
		t.Fatalf("Next(%v, %d): error %d", s, head, int(e))
	}
	return n
}

// wantNext holds an answer of Next against a super and an error.
func wantNext(t *testing.T, s api.Super, head int64, want api.Super, e api.Errno) {
	t.Helper()
	if got, f := super.Next(s, head); got != want || f != e {
		t.Errorf("Next(%v, %d): %v, error %d, not %v, error %d", s, head, got, int(f), want, int(e))
	}
}

func TestNumbers(t *testing.T) {
	if api.ErrCorrupt != 50 || api.ErrGeom != 40 || api.ErrArg != 1 || api.ErrFull != 6 || api.OK != 0 {
		t.Error("the errors' numbers")
	}
	if api.MaxEpoch != most || api.MaxHead != most || api.BlockBytes != 256 {
		t.Error("the limits")
	}
}

func TestExample(t *testing.T) {
	s, e := super.First(example)
	if s != (api.Super{Epoch: 2, G: example, Head: 32}) || e != api.OK || super.Slot(s) != 0 {
		t.Fatalf("First: %v, error %d, slot %d", s, int(e), super.Slot(s))
	}
	n, e := super.Next(s, 70)
	if n != (api.Super{Epoch: 3, G: example, Head: 70}) || e != api.OK || super.Slot(n) != 1 {
		t.Fatalf("Next: %v, error %d, slot %d", n, int(e), super.Slot(n))
	}
}

// P5.1: Check.
func TestCheck(t *testing.T) {
	for _, s := range several() {
		if e := super.Check(s); e != api.OK {
			t.Errorf("Check(%v): error %d", s, int(e))
		}
	}
	for s, want := range wrong() {
		if e := super.Check(s); e != want {
			t.Errorf("Check(%v): error %d, not %d", s, int(e), int(want))
		}
	}
}

// P5.1: Check at the edges that the document names, one field at a time.
func TestCheckEdges(t *testing.T) {
	for _, c := range []struct {
		epoch, head int64
		want        api.Errno
	}{
		{0, 32, api.ErrCorrupt},
		{1, 32, api.OK},
		{most, 32, api.OK},
		{most + 1, 32, api.ErrCorrupt},
		{2, -1, api.ErrCorrupt},
		{2, 0, api.OK},
		{2, most, api.OK},
		{2, most + 1, api.ErrCorrupt},
		{1, 0, api.OK},
		{most, most, api.OK},
		{0, -1, api.ErrCorrupt},
	} {
		s := api.Super{Epoch: c.epoch, G: example, Head: c.head}
		if e := super.Check(s); e != c.want {
			t.Errorf("Check(%v): error %d, not %d", s, int(e), int(c.want))
		}
	}
}

// P5.1: First.
func TestFirst(t *testing.T) {
	for _, g := range good {
		want := api.Super{Epoch: 2, G: g, Head: int64(4 * g.Log)}
		if s, e := super.First(g); s != want || e != api.OK {
			t.Errorf("First(%v): %v, error %d, not %v", g, s, int(e), want)
		}
		if e := super.Check(want); e != api.OK {
			t.Errorf("First(%v) is one that may not be: error %d", g, int(e))
		}
	}
	for _, g := range bad {
		if s, e := super.First(g); s != (api.Super{}) || e != api.ErrGeom {
			t.Errorf("First(%v): %v, error %d", g, s, int(e))
		}
	}
}

// P5.1: Next at the edges of the head.
func TestNextHead(t *testing.T) {
	for _, s := range several() {
		if s.Epoch == most {
			continue
		}
		for _, head := range []int64{s.Head, s.Head/2 + most/2, most} {
			wantNext(t, s, head, api.Super{Epoch: s.Epoch + 1, G: s.G, Head: head}, api.OK)
		}
		for _, head := range []int64{s.Head - 1, -1, math.MinInt64, most + 1, math.MaxInt64} {
			wantNext(t, s, head, api.Super{}, api.ErrArg)
		}
	}
	s := api.Super{Epoch: 2, G: example, Head: 32}
	wantNext(t, s, 31, api.Super{}, api.ErrArg)
	wantNext(t, s, 32, api.Super{Epoch: 3, G: example, Head: 32}, api.OK)
	wantNext(t, s, 33, api.Super{Epoch: 3, G: example, Head: 33}, api.OK)
}

// P5.1: behind the greatest Epoch there is none, but a wrong head is said first.
func TestNextOfTheLast(t *testing.T) {
	for _, head := range goodHeads {
		s := api.Super{Epoch: most, G: example, Head: head}
		wantNext(t, s, head, api.Super{}, api.ErrFull)
		wantNext(t, s, most, api.Super{}, api.ErrFull)
		wantNext(t, s, head-1, api.Super{}, api.ErrArg)
		wantNext(t, s, most+1, api.Super{}, api.ErrArg)
		s.Epoch--
		wantNext(t, s, most, api.Super{Epoch: most, G: example, Head: most}, api.OK)
	}
}

// P5.1, R2: Check's error comes first, whatever the head is.
func TestNextOfWrong(t *testing.T) {
	for s, want := range wrong() {
		for _, head := range []int64{math.MinInt64, -1, 0, s.Head, s.Head + 1, most, most + 1, math.MaxInt64} {
			wantNext(t, s, head, api.Super{}, want)
		}
	}
}

// P5.1: Slot, of supers that may not be, too.
func TestSlot(t *testing.T) {
	for epoch, want := range map[int64]int{
		0: 0, 1: 1, 2: 0, 3: 1, 4: 0, 5: 1,
		most - 1: 1, most: 0, most + 1: 1, math.MaxInt64 - 1: 0, math.MaxInt64: 1,
		-1: 0, -2: 0, -3: 0, -4: 0, -most: 0, -most - 1: 0, math.MinInt64: 0, math.MinInt64 + 1: 0,
	} {
		for _, s := range []api.Super{{Epoch: epoch}, {Epoch: epoch, G: example, Head: 33}, {Epoch: epoch, Head: -1}} {
			if got := super.Slot(s); got != want {
				t.Errorf("Slot(%v): %d, not %d", s, got, want)
			}
		}
	}
}

// P5.6: newer and newer, one behind the other.
func TestNewer(t *testing.T) {
	for _, s := range several() {
		for s.Epoch < most && s.Epoch%16 != 15 {
			n := nextOf(t, s, s.Head+(most-s.Head)/3)
			if n.Epoch <= s.Epoch || super.Slot(n)+super.Slot(s) != 1 || n.G != s.G {
				t.Fatalf("Next of %v, which stands in %d: %v, which stands in %d", s, super.Slot(s), n, super.Slot(n))
			}
			if e := super.Check(n); e != api.OK {
				t.Fatalf("Next of %v: %v, which may not be: error %d", s, n, int(e))
			}
			s = n
		}
	}
}
