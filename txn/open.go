package txn

import (
	"bytes"

	"attic/api"
	"attic/cache"
	"attic/disk"
	"attic/geom"
	"attic/replay"
	"attic/ring"
	"attic/super"
)

// Format lays an empty store on a disk.
func Format(d *disk.Disk, g api.Geometry) api.Errno {
	if e := powered(d); e != api.OK {
		return e
	}
	p, e := geom.Of(g)
	if e != api.OK {
		return e
	}
	if d.Len() != g.Blocks {
		return api.ErrArg
	}
	// The supers first: a log of noughts under an old one would be a heap's that has lost its last transactions.
	if e := blank(d, 0, api.PhaseBlock); e != api.OK {
		return e
	}
	if e := blank(d, api.PhaseBlock, p.Heap); e != api.OK {
		return e
	}
	first, e := super.First(g)
	if e != api.OK {
		return e
	}
	return note(d, first)
}

// blank lets the blocks from from on, ahead of to, be noughts.
func blank(d *disk.Disk, from, to int) api.Errno {
	for block := from; block < to; block++ {
		if e := d.Write(block, make([]byte, api.BlockBytes)); e != api.OK {
			return e
		}
	}
	return d.Flush()
}

// Open opens a disk's store, whatever the power has left of it.
func Open(d *disk.Disk) (*Store, api.Errno) {
	if e := powered(d); e != api.OK {
		return nil, e
	}
	old, e := standing(d)
	if e != api.OK {
		return nil, e
	}
	patches, tail, e := counted(d, old)
	if e != api.OK {
		return nil, e
	}
	next, e := super.Next(old, ring.Lap(tail, old.G.Log))
	if e != api.OK {
		return nil, api.ErrFull
	}
	s, e := begun(d, next)
	if e != api.OK {
		return nil, e
	}
	if e := redo(d, patches); e != api.OK {
		return nil, e
	}
	if e := note(d, next); e != api.OK {
		return nil, e
	}
	s.ops = d.Ops()
	return s, api.OK
}

// powered tells what stands against a call that needs a disk whose power is there.
func powered(d *disk.Disk) api.Errno {
	if d.Len() == 0 { // so it is of a disk that no call made, and of no other one
		return api.ErrMade
	}
	if !d.On() {
		return api.ErrPower
	}
	return api.OK
}

// standing is the super that counts on a disk, which is just as large as it says.
func standing(d *disk.Disk) (api.Super, api.Errno) {
	if d.Len() < api.PhaseBlock {
		return api.Super{}, api.ErrCorrupt
	}
	a, e := d.Read(0)
	if e != api.OK {
		return api.Super{}, e
	}
	b, e := d.Read(1)
	if e != api.OK {
		return api.Super{}, e
	}
	s, e := super.Choose(a, b)
	if e != api.OK || d.Len() != s.G.Blocks {
		return api.Super{}, api.ErrCorrupt
	}
	return s, api.OK
}

// counted is the patches that count of a super's log, and the number behind the last record that it holds.
func counted(d *disk.Disk, s api.Super) ([]api.Record, int64, api.Errno) {
	p, e := geom.Of(s.G)
	if e != api.OK {
		return nil, 0, e
	}
	r, l, e := ring.Open(d, api.LogBlock, s.G.Log, s.Head)
	if e != api.OK {
		return nil, 0, e
	}
	patches, _ := replay.Committed(l...)
	for block := range replay.Blocks(patches...) {
		if !mayUse(p, block) {
			return nil, 0, api.ErrCorrupt
		}
	}
	return patches, r.Tail(), api.OK
}

// begun is a store behind a super, with a log that is to hold nothing.
func begun(d *disk.Disk, s api.Super) (*Store, api.Errno) {
	p, e := geom.Of(s.G)
	if e != api.OK {
		return nil, e
	}
	r, l, e := ring.Open(d, api.LogBlock, s.G.Log, s.Head)
	if e != api.OK {
		return nil, e
	}
	if len(l) > 0 {
		return nil, api.ErrCorrupt
	}
	c, e := cache.New(d, api.MaxRoom)
	if e != api.OK {
		return nil, e
	}
	return &Store{within: within{r, c}, disk: d, super: s, plan: p, changed: map[int]*draft{}}, api.OK
}

// redo lets the disk have what patches make of its blocks.
func redo(d *disk.Disk, patches []api.Record) api.Errno {
	// Each block with its own ones: with all of them each time a long log would take its length times itself.
	of := map[int][]api.Record{}
	for _, x := range patches {
		of[x.Block] = append(of[x.Block], x)
	}
	for block := range replay.Blocks(patches...) {
		was, e := d.Read(block)
		if e != api.OK {
			return e
		}
		now, e := replay.Redo(was, block, of[block]...)
		if e != api.OK {
			return e
		}
		if bytes.Equal(was, now) {
			continue
		}
		if e := d.Write(block, now); e != api.OK {
			return e
		}
	}
	return d.Flush()
}
