package geom_test

import (
	"math"
	"testing"

	"attic/api"
	"attic/geom"
)

// place is a block and a byte in it.
type place struct{ block, off int }

// at makes one place of two results.
func at(block, off int) place { return place{block, off} }

var nowhere = place{-1, 0}

// behind is the place that stands so many bytes behind the begin of a block, found step by step.
func behind(block, bytes int) place {
	for bytes >= 256 {
		block, bytes = block+1, bytes-256
	}
	return place{block, bytes}
}

// P4.2 of all extents, classes and slots of several geometries.
func TestPlaces(t *testing.T) {
	for _, g := range several() {
		p := planOf(t, g)
		for e := range g.Extents {
			if b := geom.Extent(p, e); b != p.Heap+4*e {
				t.Fatalf("%v: Extent(%d): %d", g, e, b)
			}
			if got, want := at(geom.TableAt(p, e)), behind(p.Table, 8*e); got != want {
				t.Fatalf("%v: TableAt(%d): %v, not %v", g, e, got, want)
			}
			if got, want := at(geom.MarksAt(p, e)), behind(p.Marks, 4*e); got != want {
				t.Fatalf("%v: MarksAt(%d): %v, not %v", g, e, got, want)
			}
			slotPlaces(t, p, e)
		}
	}
}

func slotPlaces(t *testing.T, p api.Plan, e int) {
	t.Helper()
	bytes := 32
	for class := range 6 {
		for slot := range 1024 / bytes {
			if got, want := at(geom.SlotAt(p, e, class, slot)), behind(p.Heap+4*e, slot*bytes); got != want {
				t.Fatalf("SlotAt(%v, %d, %d, %d): %v, not %v", p, e, class, slot, got, want)
			}
		}
		for _, slot := range []int{math.MinInt, -1, 1024 / bytes, 1024/bytes + 1, 1024, math.MaxInt} {
			if got := at(geom.SlotAt(p, e, class, slot)); got != nowhere {
				t.Fatalf("SlotAt(%v, %d, %d, %d): %v", p, e, class, slot, got)
			}
		}
		bytes *= 2
	}
}

// P4.2: which extents, classes and slots there are.
func TestPlacesEdges(t *testing.T) {
	p := planOf(t, api.Geometry{Blocks: 2048, Log: 8, Dir: 1, Extents: 256})
	if b := geom.Extent(p, 255); b != p.Heap+1020 {
		t.Errorf("Extent: %d", b)
	}
	if got := at(geom.TableAt(p, 255)); got != (place{p.Table + 7, 248}) {
		t.Errorf("TableAt: %v", got)
	}
	if got := at(geom.MarksAt(p, 255)); got != (place{p.Marks + 3, 252}) {
		t.Errorf("MarksAt: %v", got)
	}
	if got := at(geom.SlotAt(p, 255, 0, 31)); got != (place{p.Heap + 1023, 224}) {
		t.Errorf("SlotAt: %v", got)
	}
	for _, e := range []int{math.MinInt, math.MinInt + 1, math.MinInt / 8, -256, -1, 256, 257, math.MaxInt / 1024, math.MaxInt/8 + 1, math.MaxInt - 1, math.MaxInt} {
		none(t, p, e)
	}
	for _, class := range []int{math.MinInt, -1, 6, 64, math.MaxInt} {
		for _, slot := range []int{math.MinInt, -1, 0, 1, math.MaxInt} {
			if got := at(geom.SlotAt(p, 0, class, slot)); got != nowhere {
				t.Errorf("SlotAt(0, %d, %d): %v", class, slot, got)
			}
		}
	}
}

// none asks for an extent that is none, or in a plan all of whose areas begin nowhere.
func none(t *testing.T, p api.Plan, e int) {
	t.Helper()
	if b := geom.Extent(p, e); b != -1 {
		t.Errorf("Extent(%v, %d): %d", p, e, b)
	}
	if got := at(geom.TableAt(p, e)); got != nowhere {
		t.Errorf("TableAt(%v, %d): %v", p, e, got)
	}
	if got := at(geom.MarksAt(p, e)); got != nowhere {
		t.Errorf("MarksAt(%v, %d): %v", p, e, got)
	}
	for class := range 6 {
		for _, slot := range []int{math.MinInt, -1, 0, 1, geom.Slots(class) - 1, geom.Slots(class), math.MaxInt} {
			if got := at(geom.SlotAt(p, e, class, slot)); got != nowhere {
				t.Errorf("SlotAt(%v, %d, %d, %d): %v", p, e, class, slot, got)
			}
		}
	}
}

// P4.2: where an area begins in a plan, each call's own area by itself.
func TestPlanEdges(t *testing.T) {
	for _, begin := range []int{math.MinInt, math.MinInt + 1, -2048, -2, -1, 2049, 4096, math.MaxInt - 1020, math.MaxInt} {
		for _, e := range []int{math.MinInt, -1, 0, 1, 255, 256, math.MaxInt} {
			none(t, api.Plan{Log: begin, Table: begin, Marks: begin, Dir: begin, Heap: begin, Blocks: begin}, e)
			none(t, api.Plan{Log: 3, Table: begin, Marks: begin, Dir: 13, Heap: begin, Blocks: 95}, e)
		}
	}
	for _, begin := range []int{0, 1, 2047, 2048} {
		for _, e := range []int{0, 1, 33, 64, 255} {
			fromBegin(t, begin, e)
		}
	}
}

// fromBegin asks plans of which just one area begins anywhere.
func fromBegin(t *testing.T, begin, e int) {
	t.Helper()
	heap := api.Plan{Table: -1, Marks: 2049, Heap: begin}
	if b := geom.Extent(heap, e); b != begin+4*e {
		t.Errorf("Extent(%v, %d): %d", heap, e, b)
	}
	if got, want := at(geom.SlotAt(heap, e, 1, 15)), behind(begin+4*e, 960); got != want {
		t.Errorf("SlotAt(%v, %d, 1, 15): %v, not %v", heap, e, got, want)
	}
	table := api.Plan{Table: begin, Marks: -1, Heap: 2049}
	if got, want := at(geom.TableAt(table, e)), behind(begin, 8*e); got != want {
		t.Errorf("TableAt(%v, %d): %v, not %v", table, e, got, want)
	}
	marks := api.Plan{Table: 2049, Marks: begin, Heap: -1}
	if got, want := at(geom.MarksAt(marks, e)), behind(begin, 4*e); got != want {
		t.Errorf("MarksAt(%v, %d): %v, not %v", marks, e, got, want)
	}
}

// owners says of each byte of a disk who stands there.
type owners struct {
	t    *testing.T
	g    api.Geometry
	whos []int
}

// put has who stand at so many bytes from a place on, within blocks of one area.
func (o *owners) put(who int, p place, bytes, area int) {
	o.t.Helper()
	from := p.block*256 + p.off
	if p.off < 0 || p.off >= 256 || from < 0 || from+bytes > len(o.whos) {
		o.t.Fatalf("%v: %d stands at %v", o.g, who, p)
	}
	for i := from; i < from+bytes; i++ {
		if o.whos[i] != 0 {
			o.t.Fatalf("%v: %d and %d share the byte %d", o.g, who, o.whos[i], i)
		}
		o.whos[i] = who
	}
	for block := p.block; block*256 < from+bytes; block++ {
		if a, _, e := geom.Where(o.g, block); a != area || e != api.OK {
			o.t.Fatalf("%v: %d stands in the area %d, not %d (error %d)", o.g, who, a, area, e)
		}
	}
}

// P4.5: entries, marks and slots of all extents, each extent of a class of its own, side by side on one disk.
func TestNothingTwice(t *testing.T) {
	for _, g := range several() {
		p := planOf(t, g)
		for turn := range 6 {
			o := owners{t, g, make([]int, g.Blocks*256)}
			for e := range g.Extents {
				extentOnce(&o, p, e, (e+turn)%6)
			}
			o.filled(p)
		}
	}
}

func extentOnce(o *owners, p api.Plan, e, class int) {
	o.t.Helper()
	who := 1 + 100*e
	entry, marks := at(geom.TableAt(p, e)), at(geom.MarksAt(p, e))
	if entry.off+8 > 256 || marks.off+4 > 256 {
		o.t.Fatalf("%v: the entry at %v or the marks at %v of the extent %d lie in two blocks", o.g, entry, marks, e)
	}
	o.put(who, entry, 8, api.ArTable)
	o.put(who+1, marks, 4, api.ArMarks)
	for slot := range geom.Slots(class) {
		o.put(who+2+slot, at(geom.SlotAt(p, e, class, slot)), geom.SlotBytes(class), api.ArHeap)
	}
}

// filled holds the heap's area against its slots: of the plan's bytes none is nobody's there.
func (o *owners) filled(p api.Plan) {
	o.t.Helper()
	for i := p.Heap * 256; i < p.Blocks*256; i++ {
		if o.whos[i] == 0 {
			o.t.Fatalf("%v: the byte %d of the heap is nobody's", o.g, i)
		}
	}
}

// P4.4 and P4.6: all blocks of several geometries, those behind the plan's among them, and how many lie in each area.
func TestWhereAll(t *testing.T) {
	for _, g := range several() {
		row, p := laid(g), planOf(t, g)
		for len(row) < g.Blocks {
			row = append(row, 7)
		}
		var many [8]int
		for block, area := range row {
			a, i, e := geom.Where(g, block)
			if a != area || i != many[area] || e != api.OK {
				t.Fatalf("Where(%v, %d): %d, %d, error %d, not %d, %d", g, block, a, i, e, area, many[area])
			}
			many[area]++
		}
		if want := [8]int{2, 1, p.Table - p.Log, p.Marks - p.Table, p.Dir - p.Marks, p.Heap - p.Dir, p.Blocks - p.Heap, g.Blocks - p.Blocks}; many != want {
			t.Fatalf("%v: the areas have %v blocks, not %v", g, many, want)
		}
	}
}

// P4.4 at the first and the last block of each area.
func TestWhereEdges(t *testing.T) {
	for _, c := range [][3]int{
		{0, 0, 0}, {1, 0, 1}, {2, 1, 0}, {3, 2, 0}, {10, 2, 7}, {11, 3, 0}, {12, 4, 0}, {13, 5, 0}, {14, 5, 1}, {15, 6, 0}, {94, 6, 79}, {95, 7, 0}, {99, 7, 4},
	} {
		if a, i, e := geom.Where(example, c[0]); a != c[1] || i != c[2] || e != api.OK {
			t.Errorf("Where(%d): %d, %d, error %d, not %d, %d", c[0], a, i, e, c[1], c[2])
		}
	}
	whole := sized(8, 2, 20, 0)
	if a, i, e := geom.Where(whole, 94); a != 6 || i != 79 || e != api.OK {
		t.Errorf("Where(%v, 94): %d, %d, error %d", whole, a, i, e)
	}
	if a, i, e := geom.Where(whole, 95); a != 0 || i != 0 || e != api.ErrArg {
		t.Errorf("Where(%v, 95): %d, %d, error %d", whole, a, i, e)
	}
}

// P4.4 and R2: ErrGeom ahead of ErrArg, and zeros beside them.
func TestWhereWrong(t *testing.T) {
	for _, block := range []int{math.MinInt, math.MinInt + 1, -100, -1, 100, 101, 2048, math.MaxInt - 1, math.MaxInt} {
		if a, i, e := geom.Where(example, block); a != 0 || i != 0 || e != api.ErrArg {
			t.Errorf("Where(%d): %d, %d, error %d", block, a, i, e)
		}
	}
	for _, g := range []api.Geometry{{}, {Blocks: 94, Log: 8, Dir: 2, Extents: 20}, {Blocks: 2049, Log: 8, Dir: 2, Extents: 20}, {Blocks: math.MaxInt, Log: -1, Dir: math.MinInt, Extents: math.MaxInt}} {
		for _, block := range []int{math.MinInt, -1, 0, 1, 50, 94, 2048, math.MaxInt} {
			if a, i, e := geom.Where(g, block); a != 0 || i != 0 || e != api.ErrGeom {
				t.Errorf("Where(%v, %d): %d, %d, error %d", g, block, a, i, e)
			}
		}
	}
}
