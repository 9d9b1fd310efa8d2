package cache_test

import (
	"testing"

	"attic/api"
)

// P9.1: those go that were asked for last longest ago, by Read or Write.
func TestOldestGoes(t *testing.T) {
	d, all := noise(t, 20)
	c := open(t, d, 4)
	reads(t, c, all, 3, 1, 2, 0)
	goes(t, c, all, 10, 3, 1, 2, 0)

	c = open(t, d, 4)
	reads(t, c, all, 3, 1, 2, 0, 1, 3, 3)
	goes(t, c, all, 10, 2, 0, 1, 3)

	c = open(t, d, 4)
	reads(t, c, all, 3, 1, 2, 0)
	writes(t, c, all, 5, []byte{9, 9}, 3, 2)
	want(t, "Clean", c.Clean(), api.OK)
	goes(t, c, all, 10, 1, 0, 3, 2)
}

// P9.1: a block that has gone comes in again as the newest one.
func TestComesAgain(t *testing.T) {
	d, all := noise(t, 20)
	c := open(t, d, 3)
	reads(t, c, all, 0, 1, 2, 3)
	holds(t, c, []int{1, 2, 3}, nil)
	reads(t, c, all, 0)
	holds(t, c, []int{0, 2, 3}, nil)
	goes(t, c, all, 10, 2, 3, 0)
}

// P9.1: a dirty buffer does not go, however old; the oldest clean one does. With room buffers one, some, none and all are dirty.
func TestCleanOneGoes(t *testing.T) {
	for dirty := range 1 << 4 {
		d, all := noise(t, 20)
		c := open(t, d, 4)
		var stay, leave []int
		for i := range 4 {
			if dirty>>i&1 == 1 {
				writes(t, c, all, i, []byte{byte(i), 1}, i)
				stay = append(stay, i)
			} else {
				reads(t, c, all, i)
				leave = append(leave, i)
			}
		}
		holds(t, c, leave, stay)
		before := faceOf(d)
		if len(leave) == 0 {
			for i := 4; i < 20; i++ {
				refusesRead(t, c, i, api.ErrFull)
				want(t, "Write", c.Write(i, 0, []byte{1}), api.ErrFull)
			}
		}
		goes(t, c, all, 4, leave...)
		before.stays(t, d)
		if n, m := c.Len(); n != len(leave) || m != len(stay) {
			t.Fatalf("%d clean and %d dirty buffers, not %d and %d", n, m, len(leave), len(stay))
		}
		reads(t, c, all, stay...)
	}
}

// P9.1: where one clean buffer is left, each block that comes in takes its place, by Write till all are dirty.
func TestOneCleanLeft(t *testing.T) {
	d, all := noise(t, 9)
	c := open(t, d, 3)
	writes(t, c, all, 1, []byte{5}, 8, 7)
	for _, i := range []int{0, 1, 2, 3, 2} {
		reads(t, c, all, i)
		holds(t, c, []int{i}, []int{7, 8})
	}
	writes(t, c, all, 2, []byte{6}, 4)
	holds(t, c, nil, []int{4, 7, 8})
	refusesRead(t, c, 2, api.ErrFull)
	want(t, "Write", c.Write(2, 0, []byte{1}), api.ErrFull)
	reads(t, c, all, 8, 7, 4)
	writes(t, c, all, 3, []byte{7}, 8, 7, 4)
	holds(t, c, nil, []int{4, 7, 8})
}

// P9.1: while all are dirty, a block with a buffer is read and written to, and one without is refused, and that changes nothing.
func TestAllDirty(t *testing.T) {
	for _, room := range []int{2, 3, 256} {
		d, all := noise(t, 600)
		before := faceOf(d)
		c := open(t, d, room)
		var in []int
		for i := range room {
			writes(t, c, all, 255-i%256, []byte{byte(i)}, i)
			in = append(in, i)
		}
		for _, i := range []int{room, 300, 599} {
			refusesRead(t, c, i, api.ErrFull)
			want(t, "Write", c.Write(i, 0, []byte{1}), api.ErrFull)
			want(t, "Write", c.Write(i, 0, nil), api.ErrFull)
		}
		holds(t, c, nil, in)
		before.stays(t, d)
		reads(t, c, all, in...)
		writes(t, c, all, 77, []byte{1, 2, 3}, in...)
		reads(t, c, all, in...)
		before.stays(t, d)

		want(t, "Clean", c.Clean(), api.OK)
		goes(t, c, all, 300, in...)
		reads(t, c, all, in...)
	}
}

// R2: what is refused does not make a buffer newer.
func TestRefusedIsNotAsked(t *testing.T) {
	d, all := noise(t, 20)
	c := open(t, d, 3)
	reads(t, c, all, 1, 2, 3)
	for _, b := range [][]byte{nil, {1}, make([]byte, 257)} {
		want(t, "Write", c.Write(1, -1, b), api.ErrArg)
		want(t, "Write", c.Write(1, 257, b), api.ErrArg)
	}
	want(t, "Write", c.Write(2, 255, []byte{1, 2}), api.ErrArg)
	refusesRead(t, c, 20, api.ErrPlace)
	holds(t, c, []int{1, 2, 3}, nil)
	goes(t, c, all, 10, 1, 2, 3)

	writes(t, c, all, 0, []byte{1}, 10, 11, 12)
	refusesRead(t, c, 1, api.ErrFull)
	want(t, "Write", c.Write(2, 0, []byte{1}), api.ErrFull)
	want(t, "Write", c.Write(10, 1, make([]byte, 256)), api.ErrArg)
	want(t, "Clean", c.Clean(), api.OK)
	goes(t, c, all, 4, 10, 11, 12)
}

// P9.2: Has, Len, Dirty and Clean ask for nothing: no buffer is newer for them.
func TestNothingAsked(t *testing.T) {
	d, all := noise(t, 20)
	c := open(t, d, 3)
	for _, i := range []int{1, 2, 3} {
		if c.Has(i) {
			t.Fatalf("Has(%d)", i)
		}
		holds(t, c, nil, nil)
	}
	reads(t, c, all, 3, 1)
	writes(t, c, all, 0, []byte{4}, 2)
	for range 4 {
		for _, i := range []int{2, 1, 3} {
			if !c.Has(i) {
				t.Fatalf("not Has(%d)", i)
			}
		}
		holds(t, c, []int{1, 3}, []int{2})
	}
	want(t, "Clean", c.Clean(), api.OK)
	holds(t, c, []int{1, 2, 3}, nil)
	goes(t, c, all, 10, 3, 1, 2)

	writes(t, c, all, 9, []byte{4}, 12, 10)
	want(t, "Clean", c.Clean(), api.OK)
	goes(t, c, all, 13, 11, 12, 10)
}

// P9.1: where the disk errs, nothing comes in and nothing goes; what has a buffer is read and written to all the same.
func TestDiskErrs(t *testing.T) {
	d, all := noise(t, 20)
	c := open(t, d, 3)
	reads(t, c, all, 1, 2)
	want(t, "Crash", d.Crash(), api.OK)
	refusesRead(t, c, 3, api.ErrPower) // there is room
	want(t, "Write", c.Write(3, 0, []byte{1}), api.ErrPower)
	want(t, "Write", c.Write(3, 0, nil), api.ErrPower)
	holds(t, c, []int{1, 2}, nil)
	want(t, "Restart", d.Restart(), api.OK)
	reads(t, c, all, 3)

	want(t, "Crash", d.Crash(), api.OK)
	refusesRead(t, c, 4, api.ErrPower) // one would have to go
	want(t, "Write", c.Write(4, 0, []byte{1}), api.ErrPower)
	holds(t, c, []int{1, 2, 3}, nil)
	reads(t, c, all, 1)
	writes(t, c, all, 8, []byte{1}, 3)
	refusesRead(t, c, 4, api.ErrPower)
	holds(t, c, []int{1, 2}, []int{3})
	want(t, "Restart", d.Restart(), api.OK)
	goes(t, c, all, 10, 2, 1)
	holds(t, c, []int{10, 11}, []int{3})
	reads(t, c, all, 3)
}

// P9.1: as long as there is a buffer, the disk is not asked; when it has gone, what the disk has then comes in.
func TestReadAnew(t *testing.T) {
	d, all := noise(t, 9)
	c := open(t, d, 2)
	reads(t, c, all, 1, 2)
	other := make([]byte, 256)
	want(t, "the disk's Write", d.Write(1, other), api.OK)
	reads(t, c, all, 1)
	holds(t, c, []int{1, 2}, nil)
	reads(t, c, all, 3, 4)
	all[1] = other
	reads(t, c, all, 1) // pending, and not on the medium
	want(t, "Crash", d.Crash(), api.OK)
	want(t, "Restart", d.Restart(), api.OK)
	reads(t, c, all, 1)
	_, old := noise(t, 9)
	reads(t, c, old, 5, 6, 1)
}
