package txn_test

import (
	"math"
	"slices"
	"testing"

	"attic/api"
	"attic/disk"
	"attic/txn"
)

// geometries may be: small, the least, those whose areas begin elsewhere, and the greatest.
var geometries = []api.Geometry{
	small,
	{Blocks: 18, Log: 8, Dir: 1, Extents: 1},
	{Blocks: 95, Log: 8, Dir: 2, Extents: 20},
	{Blocks: 180, Log: 11, Dir: 5, Extents: 33},
	{Blocks: 2048, Log: 256, Dir: 64, Extents: 256},
}

// P10.1: what Format writes, flushes and leaves, on a disk of noughts and one of any bytes.
func TestFormat(t *testing.T) {
	for _, g := range geometries {
		for _, d := range []*disk.Disk{blank(t, g.Blocks), noise(t, g.Blocks)} {
			want(t, "Write", d.Write(2, make([]byte, 256)), api.OK)
			twin := d.Clone()
			was := d.Image()
			want(t, "Format", txn.Format(d, g), writeFormat(t, twin, g))
			faceOf(twin).stays(t, d)
			_, heap, _ := areas(g)
			super := blockOf(t, api.Super{Epoch: 2, G: g, Head: int64(4 * g.Log)})
			wanted := slices.Concat(super, make([]byte, 256*(heap-1)), was[256*heap:])
			if string(d.Image()) != string(wanted) {
				t.Fatalf("Format for %v leaves another disk", g)
			}
			s := open(t, d)
			holds(t, s, false, 0)
			if all := state(t, s); all[:256*(1+heap-3-g.Log)] != string(make([]byte, 256*(1+heap-3-g.Log))) {
				t.Error("something stands ahead of the heap")
			}
		}
	}
}

// badGeometries may not be.
var badGeometries = []api.Geometry{
	{},
	{Blocks: 17, Log: 8, Dir: 1, Extents: 1},
	{Blocks: 20, Log: 7, Dir: 1, Extents: 1},
	{Blocks: 20, Log: 8, Dir: 0, Extents: 1},
	{Blocks: 20, Log: 8, Dir: 1, Extents: 0},
	{Blocks: 20, Log: 8, Dir: 1, Extents: 2},
	{Blocks: 20, Log: 257, Dir: 1, Extents: 1},
	{Blocks: 2049, Log: 8, Dir: 1, Extents: 1},
	{Blocks: math.MaxInt, Log: math.MaxInt, Dir: math.MaxInt, Extents: math.MaxInt},
	{Blocks: math.MinInt, Log: math.MinInt, Dir: math.MinInt, Extents: math.MinInt},
	{Blocks: 20, Log: 8, Dir: 1, Extents: math.MaxInt},
	{Blocks: 20, Log: 8, Dir: 1, Extents: math.MinInt},
}

// P10.1, R2: which error comes first, and that nothing is done.
func TestFormatRefused(t *testing.T) {
	for _, none := range []*disk.Disk{nil, {}} {
		for _, g := range append(badGeometries, small) {
			want(t, "Format of a disk that no call made", txn.Format(none, g), api.ErrMade)
		}
	}
	for _, blocks := range []int{1, 2, 3, 17, 18, 19, 21, 40, 2048} {
		d := noise(t, blocks)
		before := faceOf(d)
		for _, g := range badGeometries {
			want(t, "Format for what may not be", txn.Format(d, g), api.ErrGeom)
		}
		want(t, "Format of another size", txn.Format(d, small), api.ErrArg)
		before.stays(t, d)
		want(t, "Crash", d.Crash(), api.OK)
		before = faceOf(d)
		for _, g := range append(badGeometries, small) {
			want(t, "Format without the power", txn.Format(d, g), api.ErrPower)
		}
		before.stays(t, d)
	}
}

// P10.1: the power goes in each operation of a Format: what was written up to there is what the chapter says, and another Format makes a store of it.
func TestFormatPower(t *testing.T) {
	d, _ := used(t)
	for _, d := range []*disk.Disk{blank(t, 20), noise(t, 20), d} {
		for n := 1; n <= operations(t, d, func(d *disk.Disk) api.Errno { return txn.Format(d, small) }); n++ {
			for _, picks := range picksFor(dice(n), 14) {
				struck, twin := d.Clone(), d.Clone()
				want(t, "Arm", struck.Arm(n, picks...), api.OK)
				want(t, "Arm", twin.Arm(n, picks...), api.OK)
				want(t, "Format", txn.Format(struck, small), api.ErrPower)
				want(t, "Format", writeFormat(t, twin, small), api.ErrPower)
				faceOf(twin).stays(t, struck)
				want(t, "Format without the power", txn.Format(struck, small), api.ErrPower)
				want(t, "Restart", struck.Restart(), api.OK)
				twin = struck.Clone()
				s, e := txn.Open(twin)
				if e != api.OK && e != api.ErrCorrupt || (e == api.OK) != (s != nil) {
					t.Fatalf("Open: %v, error %d", s, int(e))
				}
				want(t, "Format", txn.Format(struck, small), api.OK)
				if all := state(t, open(t, struck)); all[:256*4] != string(make([]byte, 256*4)) {
					t.Fatal("something stands ahead of the heap")
				}
			}
		}
	}
}

// P10.1: on a disk that had no store, there is none until the super is noted, and then an empty one.
func TestFormatIsLast(t *testing.T) {
	for _, d := range []*disk.Disk{blank(t, 20), noise(t, 20)} {
		last := operations(t, d, func(d *disk.Disk) api.Errno { return txn.Format(d, small) })
		for n := 1; n <= last; n++ {
			for _, picks := range picksFor(dice(n), 14) {
				struck := d.Clone()
				want(t, "Arm", struck.Arm(n, picks...), api.OK)
				want(t, "Format", txn.Format(struck, small), api.ErrPower)
				want(t, "Restart", struck.Restart(), api.OK)
				if n < last-1 {
					refused(t, struck, api.ErrCorrupt)
				} else if s, e := txn.Open(struck); e == api.OK {
					if all := state(t, s); all[:256*4] != string(make([]byte, 256*4)) {
						t.Fatal("something stands ahead of the heap")
					}
				} else {
					want(t, "Open", e, api.ErrCorrupt)
				}
			}
		}
	}
}
