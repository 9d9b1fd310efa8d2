package cache_test

import (
	"slices"
	"testing"

	"attic/api"
)

// P9.2: Clean writes no dirty buffer, one and many, rising, each once and whole, and flushes nothing; twice in a row it writes nothing more.
func TestClean(t *testing.T) {
	for _, blocks := range [][]int{nil, {0}, {8}, {5, 3}, {7, 1, 8, 0, 4}, {8, 7, 6, 5, 4, 3, 2, 1, 0}} {
		d, all := noise(t, 9)
		c := open(t, d, 9)
		reads(t, c, all, 8, 0, 3)
		for k, i := range blocks {
			writes(t, c, all, 20*k, []byte{byte(k), 77, 78}, i)
		}
		var clean []int
		for _, i := range []int{8, 0, 3} {
			if !slices.Contains(blocks, i) {
				clean = append(clean, i)
			}
		}
		holds(t, c, clean, blocks)
		after := faceOf(d)
		after.stays(t, d)
		want(t, "Clean", c.Clean(), api.OK)
		for _, i := range slices.Sorted(slices.Values(blocks)) {
			after.pending = append(after.pending, waiting{i, string(all[i])})
			after.ops++
		}
		for range 3 {
			after.stays(t, d)
			holds(t, c, slices.Concat(clean, blocks), nil)
			want(t, "Clean once more", c.Clean(), api.OK)
		}
		reads(t, c, all, 0, 1, 2, 3, 4, 5, 6, 7, 8)
	}
}

// P9.2: a buffer that was cleaned is clean like any other: it goes, comes in, and is dirty again when it is written to.
func TestCleanAgain(t *testing.T) {
	d, all := noise(t, 9)
	c := open(t, d, 2)
	for k := range 5 {
		writes(t, c, all, 50*k, []byte{byte(k), 1, 2}, 6, 2)
		refusesRead(t, c, 4, api.ErrFull)
		want(t, "Clean", c.Clean(), api.OK)
		holds(t, c, []int{2, 6}, nil)
		ops := d.Ops()
		if ops != int64(2*k+2) {
			t.Fatalf("%d operations behind %d Cleans", ops, k+1)
		}
		reads(t, c, all, 4)
		holds(t, c, []int{2, 4}, nil)
		reads(t, c, all, 6, 2, 6)
	}
	writes(t, c, all, 9, []byte{3}, 6)
	want(t, "Clean", c.Clean(), api.OK)
	if d.Ops() != 11 {
		t.Fatalf("a clean buffer was written: %d operations", d.Ops())
	}
}

// P9.2: where the disk errs in the midst of a Clean, those that were written are clean, and the others stay dirty.
func TestCleanStops(t *testing.T) {
	blocks := []int{1, 3, 4, 7, 8}
	for stop := range 5 {
		for _, pick := range []uint8{0, 5, 15} {
			d, all := noise(t, 9)
			home := slices.Clone(all)
			c := open(t, d, 6)
			reads(t, c, all, 0)
			writes(t, c, all, 100, []byte{1, 2, 3}, 8, 4, 1, 7, 3)
			picks := slices.Repeat([]uint8{0}, stop)
			want(t, "Arm", d.Arm(stop+1, append(picks, pick)...), api.OK)
			want(t, "Clean", c.Clean(), api.ErrPower)
			if d.On() || d.Ops() != int64(stop+1) {
				t.Fatalf("On %v, %d operations", d.On(), d.Ops())
			}
			holds(t, c, slices.Concat([]int{0}, blocks[:stop]), blocks[stop:])
			want(t, "Clean without the power", c.Clean(), api.ErrPower)
			holds(t, c, slices.Concat([]int{0}, blocks[:stop]), blocks[stop:])
			reads(t, c, all, 0, 1, 3, 4, 7, 8)

			want(t, "Restart", d.Restart(), api.OK)
			want(t, "Clean with the power", c.Clean(), api.OK)
			if d.Ops() != 6 {
				t.Fatalf("%d operations", d.Ops())
			}
			holds(t, c, slices.Concat([]int{0}, blocks), nil)
			reads(t, c, all, 0, 1, 3, 4, 7, 8)
			for k, i := range blocks {
				want := all[i]
				if k < stop { // written ahead of the power's going, and kept by no pick
					want = home[i]
				}
				if got, _ := d.Read(i); string(got) != string(want) {
					t.Fatalf("the disk has other bytes of the block %d", i)
				}
			}
		}
	}
}

// P9.2: without a dirty buffer the disk is asked for nothing: Clean has no error even without the power.
func TestCleanOfNothing(t *testing.T) {
	d, all := noise(t, 5)
	c := open(t, d, 3)
	want(t, "Clean", c.Clean(), api.OK)
	reads(t, c, all, 1, 2)
	want(t, "Write", c.Write(2, 9, nil), api.OK)
	want(t, "Arm", d.Arm(1), api.OK)
	want(t, "Clean", c.Clean(), api.OK)
	want(t, "Crash", d.Crash(), api.OK)
	want(t, "Clean", c.Clean(), api.OK)
	holds(t, c, []int{1, 2}, nil)
	if d.Ops() != 0 {
		t.Fatalf("%d operations", d.Ops())
	}
}

// P9.2: a range over Dirty that stops early, is done twice, or lies within another one.
func TestDirtyRanges(t *testing.T) {
	d, all := noise(t, 20)
	c := open(t, d, 8)
	reads(t, c, all, 5, 0)
	writes(t, c, all, 0, []byte{1}, 17, 3, 19, 2, 11)
	blocks := []int{2, 3, 11, 17, 19}
	seq := c.Dirty()
	for most := 1; most <= 5; most++ {
		calls := 0
		seq(func(i int) bool {
			if i != blocks[calls] {
				t.Fatalf("the %d-th one is %d", calls, i)
			}
			calls++
			return calls < most
		})
		if calls != most {
			t.Fatalf("a range that is to stop behind %d blocks tells %d", most, calls)
		}
	}
	for range 2 {
		if got := slices.Collect(seq); !slices.Equal(got, blocks) {
			t.Fatalf("Dirty tells %v", got)
		}
	}
	var pairs []int
	for range seq {
		for i := range seq {
			pairs = append(pairs, i)
		}
	}
	if !slices.Equal(pairs, slices.Repeat(blocks, 5)) {
		t.Fatalf("ranges within one another tell %v", pairs)
	}
	holds(t, c, []int{0, 5}, blocks)
}

// P9.2, R3: Dirty tells what was dirty when it was asked for, while the cache is written to and cleaned, too.
func TestDirtyAsAsked(t *testing.T) {
	d, all := noise(t, 20)
	c := open(t, d, 6)
	none := c.Dirty()
	writes(t, c, all, 0, []byte{1}, 9, 4)
	two := c.Dirty()
	writes(t, c, all, 0, []byte{1}, 12, 1)
	four := c.Dirty()
	want(t, "Clean", c.Clean(), api.OK)
	clean := c.Dirty()
	for range 2 {
		for i := range none {
			t.Fatalf("a range over nothing tells %d", i)
		}
		for i := range clean {
			t.Fatalf("a range over nothing tells %d", i)
		}
		var got []int
		for i := range two {
			got = append(got, i)
			writes(t, c, all, 3, []byte{byte(i)}, 5, 15)
			reads(t, c, all, 16, 18)
		}
		for i := range four {
			got = append(got, i)
			want(t, "Clean", c.Clean(), api.OK)
			reads(t, c, all, 6, 7, 8, 10, 11, 13, 14)
		}
		if !slices.Equal(got, []int{4, 9, 1, 4, 9, 12}) {
			t.Fatalf("Dirty tells %v", got)
		}
	}
}
