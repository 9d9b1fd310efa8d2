package class_test

import (
	"math"
	"testing"

	"attic/api"
	"attic/class"
)

func wantPtr(t *testing.T, s api.Shape, i, want int) {
	t.Helper()
	if at := class.PtrAt(s, i); at != want {
		t.Errorf("PtrAt(%v, %d): %d, not %d", s, i, at, want)
	}
}

// P11.3 at the first pointer, the last one, the one behind it and those that are none.
func TestPtrEdges(t *testing.T) {
	for kind := 1; kind <= 3; kind++ {
		for _, ptrs := range []int{1, 2, 3, 125, 126} {
			for _, bytes := range []int{0, 1, 1008} { // 126 pointers and 1008 bytes have no class, and places all the same
				s := api.Shape{Kind: kind, Ptrs: ptrs, Bytes: bytes}
				wantPtr(t, s, 0, 16)
				wantPtr(t, s, ptrs-1, 8+8*ptrs)
				for _, i := range []int{ptrs, ptrs + 1, 127, math.MaxInt32, math.MaxInt/8 + 1, math.MaxInt - 1, math.MaxInt} {
					wantPtr(t, s, i, -1)
				}
				for _, i := range []int{-1, -2, -16, math.MinInt32, math.MinInt / 8, math.MinInt + 1, math.MinInt} {
					wantPtr(t, s, i, -1)
				}
				if at := class.DataAt(s); at != 16+8*ptrs {
					t.Errorf("DataAt(%v): %d", s, at)
				}
			}
		}
	}
}

// P11.3 of shapes without a pointer, and without data: the data begin behind the head, or where the object ends.
func TestNoPointersNoData(t *testing.T) {
	for _, kind := range []int{api.KdPlain, api.KdWeak} {
		for _, bytes := range []int{0, 1, 1008} {
			s := api.Shape{Kind: kind, Bytes: bytes}
			for _, i := range wide {
				wantPtr(t, s, i, -1)
			}
			if at := class.DataAt(s); at != 16 {
				t.Errorf("DataAt(%v): %d", s, at)
			}
		}
	}
	s := api.Shape{Kind: api.KdPair, Ptrs: 1}
	wantPtr(t, s, 0, 16)
	if at := class.DataAt(s); at != 24 || at != class.Size(s) {
		t.Errorf("DataAt(%v): %d, of %d bytes", s, at, class.Size(s))
	}
}

// P11.5: the head, the pointers and the data stand side by side, and fill the size.
func TestSideBySide(t *testing.T) {
	eachShape(func(s api.Shape) {
		at := 16
		for i := range s.Ptrs {
			if got := class.PtrAt(s, i); got != at {
				t.Fatalf("PtrAt(%v, %d): %d, not %d", s, i, got, at)
			}
			at += 8
		}
		if got := class.DataAt(s); got != at {
			t.Fatalf("DataAt(%v): %d, not %d", s, got, at)
		}
		if size := class.Size(s); size != at+s.Bytes {
			t.Fatalf("%v: its data end at %d, its size is %d", s, at+s.Bytes, size)
		}
	})
}
