package cache_test

import (
	"bytes"
	"math"
	"slices"
	"testing"

	"attic/api"
	"attic/cache"
	"attic/disk"
)

// book is the document's cache put another way: a line of buffers, the oldest first, on a disk of its own.
type book struct {
	disk *disk.Disk
	room int
	line []page
}

type page struct {
	block int
	bytes string
	dirty bool
}

func (k *book) find(i int) int {
	return slices.IndexFunc(k.line, func(p page) bool { return p.block == i })
}

// comeIn lets a block stand at the line's end.
func (k *book) comeIn(i int) api.Errno {
	if at := k.find(i); at >= 0 {
		p := k.line[at]
		k.line = append(slices.Delete(k.line, at, at+1), p)
		return api.OK
	}
	first := slices.IndexFunc(k.line, func(p page) bool { return !p.dirty })
	if len(k.line) == k.room && first < 0 {
		return api.ErrFull
	}
	b, e := k.disk.Read(i)
	if e != api.OK {
		return e
	}
	if len(k.line) == k.room {
		k.line = slices.Delete(k.line, first, first+1)
	}
	k.line = append(k.line, page{i, string(b), false})
	return api.OK
}

func (k *book) read(i int) (string, api.Errno) {
	if i < 0 || i >= k.disk.Len() {
		return "", api.ErrPlace
	}
	if e := k.comeIn(i); e != api.OK {
		return "", e
	}
	return k.line[len(k.line)-1].bytes, api.OK
}

func (k *book) write(i, off int, b string) api.Errno {
	if i < 0 || i >= k.disk.Len() {
		return api.ErrPlace
	}
	if off < 0 || off > 256 || off+len(b) > 256 {
		return api.ErrArg
	}
	if e := k.comeIn(i); e != api.OK {
		return e
	}
	p := &k.line[len(k.line)-1]
	p.bytes = p.bytes[:off] + b + p.bytes[off+len(b):]
	p.dirty = p.dirty || b != ""
	return api.OK
}

func (k *book) clean() api.Errno {
	for i := range k.disk.Len() {
		at := k.find(i)
		if at < 0 || !k.line[at].dirty {
			continue
		}
		if e := k.disk.Write(i, []byte(k.line[at].bytes)); e != api.OK {
			return e
		}
		k.line[at].dirty = false
	}
	return api.OK
}

// blocks is the blocks of clean buffers, or of dirty ones, rising.
func (k *book) blocks(dirty bool) []int {
	var out []int
	for _, p := range k.line {
		if p.dirty == dirty {
			out = append(out, p.block)
		}
	}
	slices.Sort(out)
	return out
}

// pair is a cache and its book, with a disk each.
type pair struct {
	c *cache.Cache
	d *disk.Disk
	k *book
}

func pairOf(t *testing.T, blocks, room int) pair {
	t.Helper()
	d, _ := noise(t, blocks)
	return pair{open(t, d, room), d, &book{disk: d.Clone(), room: room}}
}

func (p pair) read(t *testing.T, i int) {
	t.Helper()
	b, e := p.c.Read(i)
	w, f := p.k.read(i)
	if string(b) != w || e != f || e != api.OK && b != nil {
		t.Fatalf("Read(%d): %d bytes, error %d, not %d bytes, error %d", i, len(b), int(e), len(w), int(f))
	}
}

func (p pair) write(t *testing.T, i, off int, b []byte) {
	t.Helper()
	if e, f := p.c.Write(i, off, b), p.k.write(i, off, string(b)); e != f {
		t.Fatalf("Write(%d, %d, %d bytes): error %d, not %d", i, off, len(b), int(e), int(f))
	}
}

func (p pair) clean(t *testing.T) {
	t.Helper()
	want(t, "Clean", p.c.Clean(), p.k.clean())
}

// holds looks at all that the cache and the disk show.
func (p pair) holds(t *testing.T) {
	t.Helper()
	clean, dirty := p.k.blocks(false), p.k.blocks(true)
	if n, m := p.c.Len(); n != len(clean) || m != len(dirty) {
		t.Fatalf("Len is %d clean and %d dirty, not %d and %d", n, m, len(clean), len(dirty))
	}
	if got := slices.Collect(p.c.Dirty()); !slices.Equal(got, dirty) {
		t.Fatalf("Dirty tells %v, not %v", got, dirty)
	}
	for i := -1; i <= p.d.Len(); i++ {
		if p.c.Has(i) != (p.k.find(i) >= 0) {
			t.Fatalf("Has(%d) is %v", i, p.c.Has(i))
		}
	}
	faceOf(p.k.disk).stays(t, p.d)
}

// step does the same to the cache and to its book.
func (p pair) step(t *testing.T, r *dice) {
	t.Helper()
	n := p.d.Len()
	i := r.from(0, n-1)
	switch r.from(0, 19) {
	case 0, 1, 2, 3, 4, 5, 6:
		p.read(t, i)
	case 7, 8, 9, 10:
		off := r.from(0, 256)
		p.write(t, i, off, r.bytes(r.from(0, 256-off)))
	case 11:
		p.write(t, i, r.from(0, 256), nil)
	case 12:
		p.write(t, i, r.from(-2, 260), r.bytes(r.from(0, 260)))
	case 13:
		p.read(t, []int{-1, n, math.MinInt, math.MaxInt}[r.from(0, 3)])
	case 14, 15, 16:
		p.clean(t)
	case 17:
		want(t, "Flush", p.d.Flush(), p.k.disk.Flush())
	case 18:
		p.power(t, r)
	case 19:
		want(t, "Restart", p.d.Restart(), p.k.disk.Restart())
	}
}

// power lets the power go, at once or later.
func (p pair) power(t *testing.T, r *dice) {
	t.Helper()
	picks := r.bytes(r.from(0, 6))
	if r.from(0, 2) == 0 {
		want(t, "Crash", p.d.Crash(picks...), p.k.disk.Crash(picks...))
		return
	}
	n := r.from(0, 9)
	want(t, "Arm", p.d.Arm(n, picks...), p.k.disk.Arm(n, picks...))
}

// P9.1, P9.2: long runs of all calls, on a disk whose power goes and comes back.
func TestAgainstBook(t *testing.T) {
	for seed := range 40 {
		r := dice(1000 + seed)
		room := r.from(2, 6)
		p := pairOf(t, r.from(1, 12), room)
		p.holds(t)
		for range 600 {
			p.step(t, &r)
			p.holds(t)
		}
	}
}

// P9.1, P9.2: a great cache over a great disk.
func TestGreat(t *testing.T) {
	r := dice(9)
	p := pairOf(t, 2048, 256)
	for n := range 20000 {
		i := r.from(0, 2047)
		if r.from(0, 1) == 0 {
			i = r.from(0, 299)
		}
		switch r.from(0, 399) {
		case 0:
			p.clean(t)
			want(t, "Flush", p.d.Flush(), p.k.disk.Flush())
		default:
			if r.from(0, 3) == 0 {
				p.write(t, i, r.from(0, 255), r.bytes(1))
			} else {
				p.read(t, i)
			}
		}
		if n%1000 == 999 {
			p.holds(t)
		}
	}
}

// R6: the same calls answer the same, however often they are done.
func TestSameAgain(t *testing.T) {
	var first []bool
	for range 20 {
		d, all := noise(t, 300)
		c := open(t, d, 100)
		r := dice(5)
		for range 1000 {
			reads(t, c, all, r.from(0, 299))
		}
		var has []bool
		for i := range 300 {
			has = append(has, c.Has(i))
		}
		if first == nil {
			first = has
		}
		if !slices.Equal(has, first) {
			t.Fatal("the same calls leave other buffers")
		}
	}
}

// P9.3: what Read answers is what Writes made of what the disk had, whatever went and came in between. P9.5: there are never more than room buffers, and no block is refused while fewer than room are dirty.
func TestItIsTheDisk(t *testing.T) {
	for room := 2; room <= 7; room++ {
		r := dice(300 + room)
		d, now := noise(t, 10)
		c := open(t, d, room)
		refused := 0
		for range 4000 {
			i, off := r.from(0, 9), r.from(0, 256)
			b := r.bytes(r.from(0, 256-off))
			_, dirty := c.Len()
			may := dirty < room || c.Has(i)
			var e api.Errno
			switch r.from(0, 7) {
			case 0, 1, 2, 3:
				var got []byte
				if got, e = c.Read(i); e == api.OK && !bytes.Equal(got, now[i]) {
					t.Fatalf("Read(%d) answers other bytes", i)
				}
			case 4, 5, 6:
				if e = c.Write(i, off, b); e == api.OK {
					now[i] = slices.Concat(now[i][:off], b, now[i][off+len(b):])
				}
			case 7:
				want(t, "Clean", c.Clean(), api.OK)
				may = true
			}
			if e != api.OK && (e != api.ErrFull || may) {
				t.Fatalf("error %d with %d dirty buffers and room %d", int(e), dirty, room)
			}
			if e == api.OK && !may {
				t.Fatalf("the block %d came in, though all buffers are dirty", i)
			}
			if e != api.OK {
				refused++
			}
			if n, m := c.Len(); n+m > room {
				t.Fatalf("%d buffers with room %d", n+m, room)
			}
		}
		if refused == 0 {
			t.Error("no block was refused: the run does not look at what it is to look at")
		}
		want(t, "Clean", c.Clean(), api.OK)
		for i := range 10 {
			if b, e := d.Read(i); e != api.OK || !bytes.Equal(b, now[i]) {
				t.Fatalf("the disk has other bytes of the block %d", i)
			}
		}
	}
}

// P9.4: a dirty buffer goes by nothing but Clean; till then the disk has nothing of it, and behind it all of it.
func TestDirtyOnesStay(t *testing.T) {
	r := dice(94)
	for range 60 {
		d, all := noise(t, 12)
		c := open(t, d, 5)
		for range 4 {
			before := faceOf(d)
			var wrote []int
			for range 4 {
				i := r.from(0, 11)
				writes(t, c, all, r.from(0, 250), r.bytes(r.from(1, 6)), i)
				wrote = append(wrote, i)
				for range 6 {
					reads(t, c, all, r.from(0, 11))
				}
				for _, j := range wrote {
					if !c.Has(j) {
						t.Fatalf("the dirty block %d has gone", j)
					}
				}
				before.stays(t, d)
			}
			slices.Sort(wrote)
			wrote = slices.Compact(wrote)
			if got := slices.Collect(c.Dirty()); !slices.Equal(got, wrote) {
				t.Fatalf("Dirty tells %v, not %v", got, wrote)
			}
			want(t, "Clean", c.Clean(), api.OK)
			for _, i := range wrote {
				before.pending = append(before.pending, waiting{i, string(all[i])})
				before.ops++
			}
			before.stays(t, d)
		}
	}
}
