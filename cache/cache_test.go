package cache_test

import (
	"bytes"
	"math"
	"slices"
	"testing"

	"attic/api"
	"attic/cache"
	"attic/disk"
)

// dice is a row of numbers that is the same in each run.
type dice uint64

func (d *dice) next() uint64 {
	*d += 0x9e3779b97f4a7c15
	z := uint64(*d)
	z = (z ^ z>>30) * 0xbf58476d1ce4e5b9
	z = (z ^ z>>27) * 0x94d049bb133111eb
	return z ^ z>>31
}

func (d *dice) from(low, high int) int { return low + int(d.next()%uint64(high-low+1)) }

func (d *dice) bytes(n int) []byte {
	b := make([]byte, n)
	for i := range b {
		b[i] = byte(d.next())
	}
	return b
}

func want(t *testing.T, what string, got, want api.Errno) {
	t.Helper()
	if got != want {
		t.Fatalf("%s: error %d, not %d", what, int(got), int(want))
	}
}

// noise is a disk whose blocks all differ, and its blocks' bytes.
func noise(t *testing.T, blocks int) (*disk.Disk, [][]byte) {
	t.Helper()
	r := dice(blocks)
	image := r.bytes(256 * blocks)
	d, e := disk.Of(image)
	want(t, "Of", e, api.OK)
	return d, slices.Collect(slices.Chunk(image, 256))
}

func open(t *testing.T, d *disk.Disk, room int) *cache.Cache {
	t.Helper()
	c, e := cache.New(d, room)
	if e != api.OK || c == nil {
		t.Fatalf("New with room %d: %v, error %d", room, c, int(e))
	}
	return c
}

// reads holds that each of these blocks comes in, and is what stands at its number.
func reads(t *testing.T, c *cache.Cache, all [][]byte, blocks ...int) {
	t.Helper()
	for _, i := range blocks {
		if b, e := c.Read(i); e != api.OK || !bytes.Equal(b, all[i]) {
			t.Fatalf("Read(%d): error %d, or other bytes", i, int(e))
		}
	}
}

// refusesRead holds that Read answers that error, and nothing beside it.
func refusesRead(t *testing.T, c *cache.Cache, i int, want api.Errno) {
	t.Helper()
	if b, e := c.Read(i); b != nil || e != want {
		t.Fatalf("Read(%d): %d bytes, error %d, not %d", i, len(b), int(e), int(want))
	}
}

// writes writes to blocks, and to what is to stand at their numbers.
func writes(t *testing.T, c *cache.Cache, all [][]byte, off int, b []byte, blocks ...int) {
	t.Helper()
	for _, i := range blocks {
		want(t, "Write", c.Write(i, off, b), api.OK)
		all[i] = bytes.Clone(all[i])
		copy(all[i][off:], b)
	}
}

// holds looks at all faces of a cache that has just those clean and those dirty buffers.
func holds(t *testing.T, c *cache.Cache, clean, dirty []int) {
	t.Helper()
	if n, m := c.Len(); n != len(clean) || m != len(dirty) {
		t.Fatalf("Len is %d clean and %d dirty, not %d and %d", n, m, len(clean), len(dirty))
	}
	if got := slices.Collect(c.Dirty()); !slices.Equal(got, slices.Sorted(slices.Values(dirty))) {
		t.Fatalf("Dirty tells %v, not %v", got, dirty)
	}
	has := map[int]bool{}
	for _, i := range slices.Concat(clean, dirty) {
		has[i] = true
	}
	for i := -260; i <= 2310; i++ {
		if c.Has(i) != has[i] {
			t.Fatalf("Has(%d) is %v", i, !has[i])
		}
	}
	for _, i := range []int{math.MinInt, math.MinInt + 1, -1 << 32, 1 << 32, 1<<32 + 1, math.MaxInt - 1, math.MaxInt} {
		if c.Has(i) {
			t.Fatalf("Has(%d)", i)
		}
	}
}

// goes holds that these blocks go, one by one in this order, while new ones come in: none of which may be one that the disk has up to then.
func goes(t *testing.T, c *cache.Cache, all [][]byte, next int, blocks ...int) {
	t.Helper()
	for k, i := range blocks {
		if !c.Has(i) {
			t.Fatalf("the block %d has gone too early", i)
		}
		reads(t, c, all, next+k)
		if c.Has(i) {
			t.Fatalf("the block %d has not gone", i)
		}
		for _, j := range blocks[k+1:] {
			if !c.Has(j) {
				t.Fatalf("the block %d has gone in the place of %d", j, i)
			}
		}
	}
}

type waiting struct {
	block int
	bytes string
}

// face is all that a disk shows.
type face struct {
	image   string
	on      bool
	ops     int64
	pending []waiting
}

func faceOf(d *disk.Disk) face {
	f := face{image: string(d.Image()), on: d.On(), ops: d.Ops()}
	for i, b := range d.Pending() {
		f.pending = append(f.pending, waiting{i, string(b)})
	}
	return f
}

func (f face) stays(t *testing.T, d *disk.Disk) {
	t.Helper()
	g := faceOf(d)
	if g.image != f.image || g.on != f.on || g.ops != f.ops || !slices.Equal(g.pending, f.pending) {
		t.Fatalf("the disk has changed: Ops %d and %d, %d and %d pending, On %v and %v", f.ops, g.ops, len(f.pending), len(g.pending), f.on, g.on)
	}
}

// The chapter's example.
func TestExample(t *testing.T) {
	d, all := noise(t, 8)
	c := open(t, d, 2)
	reads(t, c, all, 5, 6, 5, 7)
	if c.Has(6) || !c.Has(5) {
		t.Fatalf("Has(6) %v, Has(5) %v", c.Has(6), c.Has(5))
	}
	holds(t, c, []int{5, 7}, nil)
}

// P9.1: rooms that may be, and those that may not; of a disk that no call made ErrMade comes first.
func TestNew(t *testing.T) {
	d, _ := noise(t, 3)
	before := faceOf(d)
	for room := 2; room <= 256; room++ {
		holds(t, open(t, d, room), nil, nil)
	}
	rooms := []int{math.MinInt, math.MinInt + 1, -256, -2, -1, 0, 1, 257, 258, 512, 1 << 32, 1<<32 + 2, math.MaxInt - 1, math.MaxInt}
	for _, room := range rooms {
		if c, e := cache.New(d, room); c != nil || e != api.ErrArg {
			t.Errorf("New with room %d: %v, error %d", room, c, int(e))
		}
	}
	for _, none := range []*disk.Disk{nil, {}} {
		for _, room := range append(rooms, 2, 3, 256) {
			if c, e := cache.New(none, room); c != nil || e != api.ErrMade {
				t.Errorf("New of a disk that no call made, with room %d: %v, error %d", room, c, int(e))
			}
		}
	}
	before.stays(t, d)
	want(t, "Crash", d.Crash(), api.OK)
	holds(t, open(t, d, 2), nil, nil) // New asks the disk for nothing that needs the power
}

// P9.1: there are just as many buffers as there is room, of each size.
func TestEachRoom(t *testing.T) {
	d, all := noise(t, 600)
	for _, room := range []int{2, 3, 4, 17, 255, 256} {
		c := open(t, d, room)
		var in []int
		for i := range room {
			reads(t, c, all, i)
			in = append(in, i)
			holds(t, c, in, nil)
		}
		goes(t, c, all, 300, in...)
		if n, m := c.Len(); n != room || m != 0 {
			t.Fatalf("%d clean and %d dirty buffers with room %d", n, m, room)
		}
	}
}

// P9.1: the blocks that there are, and those that there are not, whatever the cache has and whether the power is there.
func TestPlaces(t *testing.T) {
	none := []int{math.MinInt, math.MinInt + 1, -1 << 32, -256, -1, 5, 6, 2048, 1 << 32, 1<<32 + 4, math.MaxInt - 1, math.MaxInt}
	d, all := noise(t, 5)
	c := open(t, d, 2)
	for _, do := range []func(){
		func() {},
		func() { reads(t, c, all, 0, 4) },
		func() { writes(t, c, all, 7, []byte{1, 2}, 4, 0) },
		func() { want(t, "Crash", d.Crash(), api.OK) },
	} {
		do()
		clean, dirty := c.Len()
		before := faceOf(d)
		for _, i := range none {
			refusesRead(t, c, i, api.ErrPlace)
			for _, off := range []int{-1, 0, 256, 257, math.MinInt, math.MaxInt} {
				want(t, "Write", c.Write(i, off, []byte{1}), api.ErrPlace)
				want(t, "Write", c.Write(i, off, nil), api.ErrPlace)
				want(t, "Write", c.Write(i, off, make([]byte, 257)), api.ErrPlace)
			}
		}
		before.stays(t, d)
		if n, m := c.Len(); n != clean || m != dirty {
			t.Fatalf("%d clean and %d dirty buffers, ahead of it %d and %d", n, m, clean, dirty)
		}
	}
	reads(t, c, all, 4, 0)
}

// piece is an off, how many bytes come there, and whether a block takes them.
type piece struct {
	off, many int
	fits      bool
}

func pieces() []piece {
	l := []piece{
		{0, 0, true}, {1, 0, true}, {255, 0, true}, {256, 0, true}, {-1, 0, false}, {257, 0, false},
		{0, 1, true}, {255, 1, true}, {256, 1, false}, {-1, 1, false}, {257, 1, false},
		{0, 255, true}, {1, 255, true}, {2, 255, false}, {0, 256, true}, {1, 256, false}, {-1, 256, false},
		{0, 257, false}, {-1, 257, false}, {100, 156, true}, {100, 157, false}, {64, 64, true}, {-64, 128, false},
		{0, 1 << 20, false}, {-1 << 20, 1 << 20, false},
	}
	for _, many := range []int{0, 1, 2, 255, 256, 257, 512} {
		for _, off := range []int{math.MinInt, math.MinInt + 1, -1 << 32, 1 << 32, math.MaxInt - 512, math.MaxInt - 256, math.MaxInt - 1, math.MaxInt} {
			l = append(l, piece{off, many, false})
		}
		for _, off := range []int{-many, -256, 257 - many, 257} {
			if off < 0 || off > 256-many {
				l = append(l, piece{off, many, false})
			}
		}
	}
	return l
}

// P9.1: where bytes may stand in a block that has no buffer, a clean one and a dirty one.
func TestWriteEdges(t *testing.T) {
	roll := dice(4)
	for _, p := range pieces() {
		for _, was := range []string{"none", "clean", "dirty"} {
			d, all := noise(t, 3)
			before := faceOf(d)
			c := open(t, d, 2)
			clean, dirty := []int{}, []int{}
			if was != "none" {
				reads(t, c, all, 1)
				clean = []int{1}
			}
			if was == "dirty" {
				writes(t, c, all, 9, []byte{200, 201}, 1)
				clean, dirty = []int{}, []int{1}
			}
			b := roll.bytes(p.many)
			if !p.fits {
				want(t, "Write", c.Write(1, p.off, b), api.ErrArg)
			} else {
				writes(t, c, all, p.off, b, 1)
				if p.many > 0 || was == "dirty" {
					clean, dirty = []int{}, []int{1}
				} else {
					clean = []int{1}
				}
			}
			holds(t, c, clean, dirty)
			before.stays(t, d)
			reads(t, c, all, 1, 0)
		}
	}
}

// P9.1, R4: a Write of no bytes comes in, is the newest one, and leaves its buffer clean or dirty as it was.
func TestWriteNothing(t *testing.T) {
	for _, b := range [][]byte{nil, {}, make([]byte, 0, 9)} {
		d, all := noise(t, 9)
		c := open(t, d, 3)
		want(t, "Write", c.Write(1, 0, b), api.OK)
		want(t, "Write", c.Write(2, 256, b), api.OK)
		reads(t, c, all, 3)
		holds(t, c, []int{1, 2, 3}, nil)
		want(t, "Write", c.Write(1, 128, b), api.OK)
		goes(t, c, all, 4, 2, 3, 1)

		writes(t, c, all, 0, []byte{1}, 4, 5)
		want(t, "Write", c.Write(5, 0, b), api.OK)
		holds(t, c, []int{6}, []int{4, 5})
		want(t, "Write", c.Write(7, 1, b), api.OK)
		holds(t, c, []int{7}, []int{4, 5})
		writes(t, c, all, 0, []byte{1}, 7)
		want(t, "Write", c.Write(8, 0, b), api.ErrFull)
		want(t, "Write", c.Write(8, 257, b), api.ErrArg)
		want(t, "Write", c.Write(7, 0, b), api.OK)
		holds(t, c, nil, []int{4, 5, 7})
		reads(t, c, all, 7, 5, 4)
	}
}

// P9.1: bytes that stand there already make a buffer dirty, too.
func TestWriteTheSame(t *testing.T) {
	d, all := noise(t, 3)
	c := open(t, d, 2)
	reads(t, c, all, 0)
	want(t, "Write", c.Write(0, 3, all[0][3:7]), api.OK)
	want(t, "Write", c.Write(1, 0, all[1]), api.OK)
	holds(t, c, nil, []int{0, 1})
	refusesRead(t, c, 2, api.ErrFull)
}

// R2: of several errors the answer is the one that the chapter names first.
func TestFirstError(t *testing.T) {
	d, all := noise(t, 4)
	c := open(t, d, 2)
	writes(t, c, all, 0, []byte{1}, 0, 1)
	want(t, "Crash", d.Crash(), api.OK)
	long := make([]byte, 257)
	refusesRead(t, c, 4, api.ErrPlace)
	want(t, "Write", c.Write(4, -1, long), api.ErrPlace)
	want(t, "Write", c.Write(-1, 0, []byte{1}), api.ErrPlace)
	want(t, "Write", c.Write(2, -1, []byte{1}), api.ErrArg)
	want(t, "Write", c.Write(2, 0, long), api.ErrArg)
	want(t, "Write", c.Write(0, 0, long), api.ErrArg)
	refusesRead(t, c, 2, api.ErrFull)
	want(t, "Write", c.Write(2, 0, []byte{1}), api.ErrFull)
	want(t, "Write", c.Write(2, 256, nil), api.ErrFull)
	holds(t, c, nil, []int{0, 1})
	reads(t, c, all, 0, 1)

	c = open(t, d, 2)
	refusesRead(t, c, -1, api.ErrPlace)
	want(t, "Write", c.Write(4, 0, nil), api.ErrPlace)
	want(t, "Write", c.Write(3, 256, []byte{1}), api.ErrArg)
	refusesRead(t, c, 3, api.ErrPower)
	want(t, "Write", c.Write(3, 256, nil), api.ErrPower)
	holds(t, c, nil, nil)
}
