package geom_test

import (
	"math"
	"testing"

	"attic/api"
	"attic/geom"
)

// dice is a row of numbers that is the same in each run.
type dice uint64

func (d *dice) next() uint64 {
	*d += 0x9e3779b97f4a7c15
	z := uint64(*d)
	z = (z ^ z>>30) * 0xbf58476d1ce4e5b9
	z = (z ^ z>>27) * 0x94d049bb133111eb
	return z ^ z>>31
}

func (d *dice) from(low, high int) int { return low + int(d.next()%uint64(high-low+1)) }

// example is the geometry of the chapter's example.
var example = api.Geometry{Blocks: 100, Log: 8, Dir: 2, Extents: 20}

// laid is the area of each block of the plan, block by block: the plan put another way. It asks nothing of sizes that may not be.
func laid(g api.Geometry) []int {
	var out []int
	put := func(area, many int) {
		for range many {
			out = append(out, area)
		}
	}
	put(0, 2)
	put(1, 1)
	put(2, g.Log)
	for e := range g.Extents {
		if e%32 == 0 {
			put(3, 1)
		}
	}
	for e := range g.Extents {
		if e%64 == 0 {
			put(4, 1)
		}
	}
	put(5, g.Dir)
	for range g.Extents {
		put(6, 4)
	}
	return out
}

// planned is the plan that laid tells.
func planned(g api.Geometry) api.Plan {
	row := laid(g)
	first := map[int]int{}
	for i := len(row) - 1; i >= 0; i-- {
		first[row[i]] = i
	}
	return api.Plan{Log: first[2], Table: first[3], Marks: first[4], Dir: first[5], Heap: first[6], Blocks: len(row)}
}

// mayBe is whether a geometry may be, by the document's words.
func mayBe(g api.Geometry) bool {
	return 8 <= g.Log && g.Log <= 256 && 1 <= g.Dir && g.Dir <= 64 && 1 <= g.Extents && g.Extents <= 256 &&
		len(laid(g)) <= g.Blocks && g.Blocks <= 2048
}

// sized is a geometry whose blocks are just the plan's and some more.
func sized(log, dir, extents, more int) api.Geometry {
	g := api.Geometry{Log: log, Dir: dir, Extents: extents}
	g.Blocks = len(laid(g)) + more
	return g
}

// several are geometries of all kinds: the least, the greatest, those at which a block more begins, with and without blocks behind the plan's.
func several() []api.Geometry {
	out := []api.Geometry{
		example,
		{Blocks: 2048, Log: 8, Dir: 1, Extents: 1},
		{Blocks: 2048, Log: 256, Dir: 64, Extents: 256},
		sized(8, 1, 1, 0),
		sized(8, 1, 1, 1),
		sized(256, 64, 256, 0),
	}
	for _, extents := range []int{31, 32, 33, 63, 64, 65, 96, 97, 128, 129, 255} {
		out = append(out, sized(9, 3, extents, extents%3))
	}
	d := dice(4)
	for range 20 {
		out = append(out, sized(d.from(8, 256), d.from(1, 64), d.from(1, 256), d.from(0, 600)))
	}
	return out
}

func planOf(t *testing.T, g api.Geometry) api.Plan {
	t.Helper()
	p, e := geom.Of(g)
	if e != api.OK {
		t.Fatalf("Of(%v): error %d", g, e)
	}
	return p
}

// checked holds Check and Of against the document's words.
func checked(t *testing.T, g api.Geometry) {
	t.Helper()
	want, plan := api.ErrGeom, api.Plan{}
	if mayBe(g) {
		want, plan = api.OK, planned(g)
	}
	if got := geom.Check(g); got != want {
		t.Errorf("Check(%v): error %d, not %d", g, got, want)
	}
	if p, e := geom.Of(g); e != want || p != plan {
		t.Errorf("Of(%v): %v, error %d, not %v, error %d", g, p, e, plan, want)
	}
}

func TestNumbers(t *testing.T) {
	if api.ErrGeom != 40 || api.ErrArg != 1 || api.BlockBytes != 256 || api.MaxBlocks != 2048 {
		t.Error("the errors' numbers, or the limits of all layers")
	}
	if api.MinLog != 8 || api.MaxLog != 256 || api.MaxDir != 64 || api.MaxExtents != 256 || api.Classes != 6 || api.MinSlot != 32 {
		t.Error("the limits")
	}
	if api.PhaseBlock != 2 || api.LogBlock != 3 || api.ExtentBlocks != 4 || api.ExtentBytes != 1024 || api.TableBytes != 8 || api.MarkBytes != 4 {
		t.Error("the sizes")
	}
	if [...]int{api.ArSuper, api.ArPhase, api.ArLog, api.ArTable, api.ArMarks, api.ArDir, api.ArHeap, api.ArNone} != [...]int{0, 1, 2, 3, 4, 5, 6, 7} {
		t.Error("the areas' numbers")
	}
}

func TestExample(t *testing.T) {
	p := planOf(t, example)
	if p != (api.Plan{Log: 3, Table: 11, Marks: 12, Dir: 13, Heap: 15, Blocks: 95}) {
		t.Fatalf("Of: %v", p)
	}
	if b := geom.Extent(p, 1); b != 19 {
		t.Errorf("Extent: %d", b)
	}
	if b, off := geom.SlotAt(p, 1, 2, 3); b != 20 || off != 128 {
		t.Errorf("SlotAt: %d, %d", b, off)
	}
}

// P4.1 at the edges that the document names, one field at a time.
func TestCheckEdges(t *testing.T) {
	for _, c := range []struct {
		g    api.Geometry
		want api.Errno
	}{
		{api.Geometry{}, api.ErrGeom},
		{api.Geometry{Blocks: 2048, Log: 7, Dir: 1, Extents: 1}, api.ErrGeom},
		{api.Geometry{Blocks: 2048, Log: 8, Dir: 1, Extents: 1}, api.OK},
		{api.Geometry{Blocks: 2048, Log: 256, Dir: 1, Extents: 1}, api.OK},
		{api.Geometry{Blocks: 2048, Log: 257, Dir: 1, Extents: 1}, api.ErrGeom},
		{api.Geometry{Blocks: 2048, Log: 8, Dir: 0, Extents: 1}, api.ErrGeom},
		{api.Geometry{Blocks: 2048, Log: 8, Dir: 64, Extents: 1}, api.OK},
		{api.Geometry{Blocks: 2048, Log: 8, Dir: 65, Extents: 1}, api.ErrGeom},
		{api.Geometry{Blocks: 2048, Log: 8, Dir: 1, Extents: 0}, api.ErrGeom},
		{api.Geometry{Blocks: 2048, Log: 8, Dir: 1, Extents: 256}, api.OK},
		{api.Geometry{Blocks: 2048, Log: 8, Dir: 1, Extents: 257}, api.ErrGeom},
		{api.Geometry{Blocks: 2049, Log: 8, Dir: 1, Extents: 1}, api.ErrGeom},
		{api.Geometry{Blocks: 18, Log: 8, Dir: 1, Extents: 1}, api.OK},
		{api.Geometry{Blocks: 17, Log: 8, Dir: 1, Extents: 1}, api.ErrGeom},
		{api.Geometry{Blocks: 95, Log: 8, Dir: 2, Extents: 20}, api.OK},
		{api.Geometry{Blocks: 94, Log: 8, Dir: 2, Extents: 20}, api.ErrGeom},
		{api.Geometry{Blocks: 1359, Log: 256, Dir: 64, Extents: 256}, api.OK},
		{api.Geometry{Blocks: 1358, Log: 256, Dir: 64, Extents: 256}, api.ErrGeom},
	} {
		if got := geom.Check(c.g); got != c.want {
			t.Errorf("Check(%v): error %d, not %d", c.g, got, c.want)
		}
		checked(t, c.g)
	}
}

// P4.1 for each size by itself, with the plan's Blocks, one less and one more.
func TestCheckSizes(t *testing.T) {
	for _, more := range []int{-1, 0, 1} {
		for log := -1; log <= 300; log++ {
			checked(t, sized(log, 2, 20, more))
		}
		for dir := -1; dir <= 100; dir++ {
			checked(t, sized(8, dir, 20, more))
		}
		for extents := -1; extents <= 300; extents++ {
			checked(t, sized(8, 2, extents, more))
		}
	}
}

// R1 and P4.1: numbers below 0 and near the ends of int, in all fields at a time.
func TestCheckWrong(t *testing.T) {
	var wide = []int{math.MinInt, math.MinInt + 1, math.MinInt / 4, math.MinInt32, -1024, -1, 0, 1, 8, 64, 256, 2048, math.MaxInt32, math.MaxInt / 1024, math.MaxInt / 8, math.MaxInt / 4, math.MaxInt/4 + 1, math.MaxInt - 1, math.MaxInt}
	for _, blocks := range wide {
		for _, log := range wide {
			for _, dir := range wide {
				for _, extents := range wide {
					checked(t, api.Geometry{Blocks: blocks, Log: log, Dir: dir, Extents: extents})
				}
			}
		}
	}
	if a, i, e := geom.Where(api.Geometry{Blocks: math.MaxInt, Log: math.MaxInt, Dir: math.MaxInt, Extents: math.MaxInt}, math.MaxInt); a != 0 || i != 0 || e != api.ErrGeom {
		t.Errorf("Where: %d, %d, error %d", a, i, e)
	}
}

func TestOfSeveral(t *testing.T) {
	for _, g := range several() {
		checked(t, g)
	}
}

// P4.3, with classes that are none.
func TestClasses(t *testing.T) {
	slots, bytes := []int{32, 16, 8, 4, 2, 1}, []int{32, 64, 128, 256, 512, 1024}
	for class := range 6 {
		if n := geom.Slots(class); n != slots[class] {
			t.Errorf("Slots(%d): %d", class, n)
		}
		if n := geom.SlotBytes(class); n != bytes[class] {
			t.Errorf("SlotBytes(%d): %d", class, n)
		}
	}
	for _, class := range []int{math.MinInt, math.MinInt + 1, -64, -1, 6, 7, 32, 58, 63, 64, math.MaxInt - 1, math.MaxInt} {
		if n, m := geom.Slots(class), geom.SlotBytes(class); n != 0 || m != 0 {
			t.Errorf("the class %d: %d slots of %d bytes", class, n, m)
		}
	}
}
