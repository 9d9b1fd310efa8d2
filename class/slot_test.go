package class_test

import (
	"math"
	"slices"
	"testing"

	"attic/api"
	"attic/class"
	"attic/geom"
)

// pair is what All tells at a time.
type pair struct{ class, slot int }

var pairs = []pair{{0, 32}, {1, 64}, {2, 128}, {3, 256}, {4, 512}, {5, 1024}}

// noClass are numbers of which no class is.
var noClass = []int{math.MinInt, math.MinInt + 1, math.MinInt + 5, -64, -6, -5, -1, 6, 7, 31, 32, 58, 59, 63, 64, 65, math.MaxInt32, math.MaxInt - 1, math.MaxInt}

// P11.2: Slot and Slots of each class, and of those that are none.
func TestSlots(t *testing.T) {
	many := []int{32, 16, 8, 4, 2, 1}
	for c := range 6 {
		if n := class.Slot(c); n != slots[c] {
			t.Errorf("Slot(%d): %d, not %d", c, n, slots[c])
		}
		if n := class.Slots(c); n != many[c] {
			t.Errorf("Slots(%d): %d, not %d", c, n, many[c])
		}
	}
	for _, c := range noClass {
		if slot, n := class.Slot(c), class.Slots(c); slot != 0 || n != 0 {
			t.Errorf("the class %d: %d slots of %d bytes", c, n, slot)
		}
	}
}

// Objects are put by these sizes into extents that geom cuts.
func TestSlotsAreThoseOfGeom(t *testing.T) {
	for _, c := range append([]int{0, 1, 2, 3, 4, 5}, noClass...) {
		if class.Slot(c) != geom.SlotBytes(c) || class.Slots(c) != geom.Slots(c) {
			t.Errorf("the class %d: %d slots of %d bytes, not %d of %d", c, class.Slots(c), class.Slot(c), geom.Slots(c), geom.SlotBytes(c))
		}
	}
}

// P11.2, R3: All tells the classes, stopped wherever it is, and all of them when it is gone through again.
func TestAll(t *testing.T) {
	all := class.All()
	for most := 1; most <= len(pairs); most++ {
		for range 2 {
			var got []pair
			for c, slot := range all {
				got = append(got, pair{c, slot})
				if len(got) == most {
					break
				}
			}
			if !slices.Equal(got, pairs[:most]) {
				t.Errorf("at most %d classes: %v, not %v", most, got, pairs[:most])
			}
		}
		wantAll(t)
		var got []pair
		for c, slot := range all {
			got = append(got, pair{c, slot})
		}
		if !slices.Equal(got, pairs) {
			t.Errorf("all classes behind %d of them: %v, not %v", most, got, pairs)
		}
	}
}

func wantAll(t *testing.T) {
	t.Helper()
	var got []pair
	for c, slot := range class.All() {
		got = append(got, pair{c, slot})
	}
	if !slices.Equal(got, pairs) {
		t.Errorf("All: %v, not %v", got, pairs)
	}
}

// A yield that says stop is not asked again.
func TestAllStaysSilentBehindAStop(t *testing.T) {
	all := class.All()
	for most := 1; most <= len(pairs); most++ {
		calls := 0
		all(func(int, int) bool {
			calls++
			return calls < most
		})
		if calls != most {
			t.Errorf("%d classes were told, %d asked for", calls, most)
		}
	}
}

// R3: two ranges over one iterator do not touch each other.
func TestAllWithinAll(t *testing.T) {
	all := class.All()
	var outer []pair
	for c, slot := range all {
		outer = append(outer, pair{c, slot})
		var inner []pair
		for c, slot := range all {
			inner = append(inner, pair{c, slot})
			if len(inner) == 3 {
				break
			}
		}
		if !slices.Equal(inner, pairs[:3]) {
			t.Errorf("a range within: %v, not %v", inner, pairs[:3])
		}
	}
	if !slices.Equal(outer, pairs) {
		t.Errorf("a range about others: %v, not %v", outer, pairs)
	}
}

// P11.4: a size is at most its class's slot, and above half of it, but in class 0.
func TestTheLeastOne(t *testing.T) {
	seen := [6]bool{}
	eachShape(func(s api.Shape) {
		c, e := class.Of(s)
		size := class.Size(s)
		if e != api.OK {
			if e != api.ErrLarge || size <= class.Slot(5) {
				t.Fatalf("Of(%v): error %d, with %d bytes", s, e, size)
			}
			return
		}
		if slot := class.Slot(c); size > slot || c > 0 && 2*size <= slot {
			t.Fatalf("%v has %d bytes, in the class %d of %d", s, size, c, slot)
		}
		seen[c] = true
	})
	if seen != [6]bool{true, true, true, true, true, true} {
		t.Errorf("classes that some shape has: %v", seen)
	}
}

// P11.6: with one pointer more, or one byte more, no class is less; what is too large stays so.
func TestMoreIsNoLess(t *testing.T) {
	const large = 6 // behind all classes
	rank := func(s api.Shape) int {
		switch c, e := class.Of(s); e {
		case api.OK:
			return c
		case api.ErrLarge:
			return large
		default:
			t.Fatalf("Of(%v): error %d", s, e)
			return 0
		}
	}
	eachShape(func(s api.Shape) {
		this := rank(s)
		if more := s; s.Ptrs < 126 {
			more.Ptrs++
			if rank(more) < this {
				t.Fatalf("%v has a lesser class than %v", more, s)
			}
		}
		if more := s; s.Bytes < 1008 {
			more.Bytes++
			if rank(more) < this {
				t.Fatalf("%v has a lesser class than %v", more, s)
			}
		}
	})
}
