package class_test

import (
	"math"
	"testing"

	"attic/api"
	"attic/class"
)

// slots are the bytes of each class's slot.
var slots = [6]int{32, 64, 128, 256, 512, 1024}

// wide are numbers of all kinds, those near the ends of int among them.
var wide = []int{
	math.MinInt, math.MinInt + 1, math.MinInt + 16, math.MinInt / 8, math.MinInt/8 + 1, math.MinInt32, -1024, -2, -1,
	0, 1, 2, 3, 4, 5, 125, 126, 127, 1007, 1008, 1009,
	math.MaxInt32, math.MaxInt / 8, math.MaxInt/8 + 1, math.MaxInt - 1008, math.MaxInt - 16, math.MaxInt - 1, math.MaxInt,
}

// mayBe is whether a shape may be, by the document's words.
func mayBe(s api.Shape) bool {
	return (s.Kind == 1 || s.Kind == 2 || s.Kind == 3 && s.Ptrs != 0) &&
		0 <= s.Ptrs && s.Ptrs <= 126 && 0 <= s.Bytes && s.Bytes <= 1008
}

// sizeOf counts an object's bytes, pointer by pointer.
func sizeOf(s api.Shape) int {
	if !mayBe(s) {
		return 0
	}
	size := 16
	for range s.Ptrs {
		size += 8
	}
	return size + s.Bytes
}

// classOf is a shape's class, found from the largest slot down, and the error.
func classOf(s api.Shape) (int, api.Errno) {
	switch size := sizeOf(s); {
	case size == 0:
		return 0, api.ErrShape
	case size > 1024:
		return 0, api.ErrLarge
	default:
		c := 5
		for c > 0 && size <= slots[c-1] {
			c--
		}
		return c, api.OK
	}
}

// checked holds Check, Size, Of and DataAt against the document's words.
func checked(t *testing.T, s api.Shape) {
	t.Helper()
	want, data := api.ErrShape, -1
	if mayBe(s) {
		want, data = api.OK, sizeOf(s)-s.Bytes
	}
	if e := class.Check(s); e != want {
		t.Fatalf("Check(%v): error %d, not %d", s, e, want)
	}
	if size := class.Size(s); size != sizeOf(s) {
		t.Fatalf("Size(%v): %d, not %d", s, size, sizeOf(s))
	}
	c, e := class.Of(s)
	if wantC, wantE := classOf(s); c != wantC || e != wantE {
		t.Fatalf("Of(%v): %d, error %d, not %d, error %d", s, c, e, wantC, wantE)
	}
	if at := class.DataAt(s); at != data {
		t.Fatalf("DataAt(%v): %d, not %d", s, at, data)
	}
}

// eachShape calls f with each shape that may be.
func eachShape(f func(s api.Shape)) {
	for kind := 1; kind <= 3; kind++ {
		for ptrs := range 127 {
			if kind == 3 && ptrs == 0 {
				continue
			}
			for bytes := range 1009 {
				f(api.Shape{Kind: kind, Ptrs: ptrs, Bytes: bytes})
			}
		}
	}
}

func TestNumbers(t *testing.T) {
	if api.ErrShape != 110 || api.ErrLarge != 111 {
		t.Error("the errors' numbers")
	}
	if api.KdPlain != 1 || api.KdWeak != 2 || api.KdPair != 3 {
		t.Error("the kinds' numbers")
	}
	if api.Classes != 6 || api.MinSlot != 32 || api.ExtentBytes != 1024 || api.HeadLen != 16 || api.MaxPtrs != 126 || api.MaxBytes != 1008 {
		t.Error("the sizes")
	}
}

func TestExample(t *testing.T) {
	s := api.Shape{Kind: api.KdPlain, Ptrs: 2, Bytes: 5}
	if e := class.Check(s); e != api.OK {
		t.Errorf("Check: error %d", e)
	}
	if size := class.Size(s); size != 37 {
		t.Errorf("Size: %d", size)
	}
	if c, e := class.Of(s); c != 1 || e != api.OK {
		t.Errorf("Of: %d, error %d", c, e)
	}
	if first, second := class.PtrAt(s, 0), class.PtrAt(s, 1); first != 16 || second != 24 {
		t.Errorf("PtrAt: %d, %d", first, second)
	}
	if at := class.DataAt(s); at != 32 {
		t.Errorf("DataAt: %d", at)
	}
}

// P11.1 at the edges that the document names, one number at a time.
func TestCheckEdges(t *testing.T) {
	for _, c := range []struct {
		s    api.Shape
		want api.Errno
	}{
		{api.Shape{}, api.ErrShape},
		{api.Shape{Kind: -1, Ptrs: 1, Bytes: 1}, api.ErrShape},
		{api.Shape{Kind: 0, Ptrs: 1, Bytes: 1}, api.ErrShape},
		{api.Shape{Kind: 1, Ptrs: 1, Bytes: 1}, api.OK},
		{api.Shape{Kind: 2, Ptrs: 1, Bytes: 1}, api.OK},
		{api.Shape{Kind: 3, Ptrs: 1, Bytes: 1}, api.OK},
		{api.Shape{Kind: 4, Ptrs: 1, Bytes: 1}, api.ErrShape},
		{api.Shape{Kind: 1, Ptrs: -1}, api.ErrShape},
		{api.Shape{Kind: 1, Ptrs: 0}, api.OK},
		{api.Shape{Kind: 1, Ptrs: 1}, api.OK},
		{api.Shape{Kind: 1, Ptrs: 126}, api.OK},
		{api.Shape{Kind: 1, Ptrs: 127}, api.ErrShape},
		{api.Shape{Kind: 1, Bytes: -1}, api.ErrShape},
		{api.Shape{Kind: 1, Bytes: 1}, api.OK},
		{api.Shape{Kind: 1, Bytes: 1008}, api.OK},
		{api.Shape{Kind: 1, Bytes: 1009}, api.ErrShape},
		{api.Shape{Kind: 2}, api.OK},
		{api.Shape{Kind: 2, Ptrs: 126, Bytes: 1008}, api.OK},
		{api.Shape{Kind: 2, Ptrs: -1}, api.ErrShape},
		{api.Shape{Kind: 2, Ptrs: 127}, api.ErrShape},
		{api.Shape{Kind: 2, Bytes: -1}, api.ErrShape},
		{api.Shape{Kind: 2, Bytes: 1009}, api.ErrShape},
		{api.Shape{Kind: 3, Ptrs: -1}, api.ErrShape},
		{api.Shape{Kind: 3, Ptrs: 0}, api.ErrShape},
		{api.Shape{Kind: 3, Ptrs: 0, Bytes: 1008}, api.ErrShape},
		{api.Shape{Kind: 3, Ptrs: 1}, api.OK},
		{api.Shape{Kind: 3, Ptrs: 126, Bytes: 1008}, api.OK},
		{api.Shape{Kind: 3, Ptrs: 127}, api.ErrShape},
		{api.Shape{Kind: 3, Ptrs: 1, Bytes: -1}, api.ErrShape},
		{api.Shape{Kind: 3, Ptrs: 1, Bytes: 1009}, api.ErrShape},
	} {
		if e := class.Check(c.s); e != c.want {
			t.Errorf("Check(%v): error %d, not %d", c.s, e, c.want)
		}
		checked(t, c.s)
	}
}

// P11.1 of all shapes that may be.
func TestAllShapes(t *testing.T) {
	eachShape(func(s api.Shape) { checked(t, s) })
}

// R1 and P11.1: kinds, pointers and bytes of any number, in all fields at a time.
func TestAnyShape(t *testing.T) {
	for _, kind := range wide {
		for _, ptrs := range wide {
			for _, bytes := range wide {
				checked(t, api.Shape{Kind: kind, Ptrs: ptrs, Bytes: bytes})
			}
		}
	}
}

// R2: nothing stands beside an error, and ErrShape comes ahead of ErrLarge; each call refuses what Check refuses.
func TestRefused(t *testing.T) {
	for _, s := range []api.Shape{
		{}, {Kind: 4, Ptrs: 126, Bytes: 1008}, {Kind: 1, Ptrs: 127, Bytes: 1008}, {Kind: 2, Ptrs: 1, Bytes: 1009}, {Kind: 3, Bytes: 1008},
		{Kind: 1, Ptrs: -1, Bytes: 8}, {Kind: 1, Ptrs: 1, Bytes: -8}, {Kind: 1, Ptrs: math.MaxInt/8 + 1}, {Kind: 3, Ptrs: math.MinInt, Bytes: math.MaxInt},
	} {
		if e := class.Check(s); e != api.ErrShape {
			t.Errorf("Check(%v): error %d", s, e)
		}
		if size := class.Size(s); size != 0 {
			t.Errorf("Size(%v): %d", s, size)
		}
		if c, e := class.Of(s); c != 0 || e != api.ErrShape {
			t.Errorf("Of(%v): %d, error %d", s, c, e)
		}
		if at := class.DataAt(s); at != -1 {
			t.Errorf("DataAt(%v): %d", s, at)
		}
		for _, i := range wide {
			if at := class.PtrAt(s, i); at != -1 {
				t.Errorf("PtrAt(%v, %d): %d", s, i, at)
			}
		}
	}
}

// P11.1: a size of just a slot of each class, of one byte less and of one byte more, with few pointers and with as many as there is room for.
func TestOfEdges(t *testing.T) {
	for c, slot := range slots {
		for ptrs := range (slot-16)/8 + 1 {
			just := api.Shape{Kind: api.KdWeak, Ptrs: ptrs, Bytes: slot - 16 - 8*ptrs}
			wantClass(t, just, slot, c, api.OK)
			more := just
			more.Bytes++
			if c < 5 {
				wantClass(t, more, slot+1, c+1, api.OK)
			} else if ptrs > 0 { // without pointers it is a shape that may not be
				wantClass(t, more, slot+1, 0, api.ErrLarge)
			}
			if less := just; just.Bytes > 0 {
				less.Bytes--
				wantClass(t, less, slot-1, c, api.OK)
			}
		}
	}
	wantClass(t, api.Shape{Kind: api.KdPlain}, 16, 0, api.OK)
	wantClass(t, api.Shape{Kind: api.KdPair, Ptrs: 126}, 1024, 5, api.OK)
	wantClass(t, api.Shape{Kind: api.KdPair, Ptrs: 126, Bytes: 1}, 1025, 0, api.ErrLarge)
	wantClass(t, api.Shape{Kind: api.KdPlain, Bytes: 1008}, 1024, 5, api.OK)
	wantClass(t, api.Shape{Kind: api.KdPlain, Ptrs: 1, Bytes: 1008}, 1032, 0, api.ErrLarge)
	wantClass(t, api.Shape{Kind: api.KdPlain, Ptrs: 126, Bytes: 1008}, 2032, 0, api.ErrLarge)
}

func wantClass(t *testing.T, s api.Shape, size, c int, e api.Errno) {
	t.Helper()
	if n := class.Size(s); n != size {
		t.Errorf("Size(%v): %d, not %d", s, n, size)
	}
	if got, err := class.Of(s); got != c || err != e {
		t.Errorf("Of(%v): %d, error %d, not %d, error %d", s, got, err, c, e)
	}
}
