package cache_test

import (
	"bytes"
	"math"
	"reflect"
	"testing"

	"attic/api"
	"attic/cache"
	"attic/disk"
)

// R3: the bytes of a Write are not written to, with the room behind them, and may be changed by their owner afterwards.
func TestHandedIn(t *testing.T) {
	roll := dice(93)
	d, all := noise(t, 5)
	c := open(t, d, 2)
	room := roll.bytes(600)
	first := bytes.Clone(room)
	for _, s := range []struct {
		off int
		b   []byte
	}{
		{0, room[:256]}, {3, room[10:20]}, {200, room[300:356]}, {256, room[:0]}, {100, room[400:500:500]}, {0, room[:256:256]}, {0, room[50:306]},
	} {
		writes(t, c, all, s.off, s.b, 1)
		want(t, "Write", c.Write(1, s.off+1, room[:256]), api.ErrArg)
		want(t, "Write", c.Write(5, s.off, s.b), api.ErrPlace)
		if !bytes.Equal(room, first) {
			t.Fatal("the bytes that were handed in were written to")
		}
		clear(room)
		reads(t, c, all, 1)
		copy(room, first)
	}
	writes(t, c, all, 0, room[:256], 2)
	want(t, "Write", c.Write(3, 0, room[:256]), api.ErrFull)
	clear(room)
	want(t, "Clean", c.Clean(), api.OK)
	for _, i := range []int{1, 2} {
		if b, e := d.Read(i); e != api.OK || !bytes.Equal(b, all[i]) {
			t.Fatalf("the disk has other bytes of the block %d", i)
		}
	}
	reads(t, c, all, 3, 4, 2, 1)
}

// R3: the bytes that Read answers are nobody's else: the buffer's, the disk's, or another Read's.
func TestAnswers(t *testing.T) {
	d, all := noise(t, 5)
	before := faceOf(d)
	c := open(t, d, 2)
	for _, i := range []int{1, 1, 2, 1, 3, 1} {
		b, e := c.Read(i)
		other, _ := c.Read(i)
		want(t, "Read", e, api.OK)
		for k := range b[:cap(b)] {
			b[:cap(b)][k] ^= 0xff
		}
		if !bytes.Equal(other, all[i]) {
			t.Fatal("two answers share their bytes")
		}
		reads(t, c, all, i)
	}
	holds(t, c, []int{1, 3}, nil)
	before.stays(t, d)

	writes(t, c, all, 9, []byte{1, 2}, 1)
	was, _ := c.Read(1)
	old := bytes.Clone(was)
	writes(t, c, all, 0, make([]byte, 256), 1)
	if !bytes.Equal(was, old) {
		t.Fatal("a Write has changed what Read had answered")
	}
	b, _ := c.Read(1)
	clear(b[:cap(b)])
	b[0] = 99
	want(t, "Clean", c.Clean(), api.OK)
	reads(t, c, all, 1)
	if b, e := d.Read(1); e != api.OK || !bytes.Equal(b, all[1]) {
		t.Fatal("the disk has other bytes")
	}
}

// R3: what Clean wrote stays as it was written, whatever is written to the buffer behind it.
func TestWrittenStays(t *testing.T) {
	d, all := noise(t, 3)
	c := open(t, d, 2)
	writes(t, c, all, 0, []byte{1, 2, 3}, 1)
	want(t, "Clean", c.Clean(), api.OK)
	after := faceOf(d)
	writes(t, c, all, 0, make([]byte, 256), 1)
	after.stays(t, d)
	reads(t, c, all, 1)
}

// R3: two caches of one disk know nothing of each other but by the disk.
func TestTwoCaches(t *testing.T) {
	d, all := noise(t, 9)
	_, theirs := noise(t, 9)
	a, b := open(t, d, 2), open(t, d, 3)
	reads(t, b, theirs, 1, 2)
	writes(t, a, all, 7, []byte{1, 2, 3}, 1, 3)
	holds(t, a, nil, []int{1, 3})
	holds(t, b, []int{1, 2}, nil)
	reads(t, b, theirs, 1, 2, 3)
	want(t, "Clean", b.Clean(), api.OK)
	holds(t, a, nil, []int{1, 3})
	want(t, "Clean", a.Clean(), api.OK)
	reads(t, b, theirs, 1, 3)
	reads(t, b, all, 4, 5, 6, 1, 3)
}

// R5: a cache that no call made answers as the chapter says, and is as it was.
func TestNotMade(t *testing.T) {
	ints := []int{math.MinInt, -1, 0, 1, 255, 256, 257, 2047, 2048, math.MaxInt}
	for _, c := range []*cache.Cache{nil, {}} {
		for _, i := range ints {
			refusesRead(t, c, i, api.ErrMade)
			for _, off := range ints {
				for _, b := range [][]byte{nil, {}, {1}, make([]byte, 256), make([]byte, 257)} {
					want(t, "Write", c.Write(i, off, b), api.ErrMade)
				}
			}
		}
		want(t, "Clean", c.Clean(), api.ErrMade)
		holds(t, c, nil, nil)
		seq := c.Dirty()
		if seq == nil {
			t.Fatal("no iterator")
		}
		for range 2 {
			for i := range seq {
				t.Errorf("Dirty tells %d", i)
			}
		}
		want(t, "Clean", c.Clean(), api.ErrMade)
		if c != nil && !reflect.ValueOf(*c).IsZero() {
			t.Error("a call has made something of it")
		}
	}
}

// R1: the calls of a cache end, whatever its owner makes of the disk under it.
func TestDiskThatIsGone(t *testing.T) {
	d, all := noise(t, 9)
	c := open(t, d, 3)
	reads(t, c, all, 0)
	writes(t, c, all, 0, []byte{1}, 1, 8)
	whole := *d
	*d = disk.Disk{}
	refusesRead(t, c, 1, api.ErrPlace)
	want(t, "Write", c.Write(1, 0, []byte{1}), api.ErrPlace)
	want(t, "Clean", c.Clean(), api.ErrMade)
	holds(t, c, []int{0}, []int{1, 8})
	small, _ := noise(t, 2)
	*d = *small
	refusesRead(t, c, 8, api.ErrPlace)
	want(t, "Clean", c.Clean(), api.ErrPlace)
	holds(t, c, []int{0, 1}, []int{8})
	*d = whole
	reads(t, c, all, 0, 1, 8)
	want(t, "Clean", c.Clean(), api.OK)
	holds(t, c, []int{0, 1, 8}, nil)
}
