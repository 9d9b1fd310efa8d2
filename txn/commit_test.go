package txn_test

import (
	"bytes"
	"slices"
	"testing"

	"attic/api"
	"attic/disk"
	"attic/txn"
)

// dots are edits that need so many patches: a byte in each piece of block behind block.
func dots(c byte, blocks []int, patches int) []edit {
	var l []edit
	for n := range patches {
		l = append(l, edit{blocks[n/6], 44 * (n % 6), []byte{c}})
	}
	return l
}

// superOf is a disk's super that counts, and where a log that holds so many records ends.
func superOf(t *testing.T, d *disk.Disk) (api.Super, int64) {
	t.Helper()
	c := d.Clone()
	k, e := openBook(t, c)
	want(t, "openBook", e, api.OK)
	s := k.s
	return s, s.Head - k.lap()
}

// P10.4: what a Commit writes: the log's blocks, flushed, and then the changed blocks whole, rising.
func TestCommitWrites(t *testing.T) {
	d, s := fresh(t, small)
	commits(t, s, edit{13, 0, []byte("home")})
	was := faceOf(d)
	l := []edit{{17, 250, []byte("to")}, {2, 40, []byte("over a piece")}, {13, 2, []byte("pe")}, {11, 0, []byte{0}}, {14, 0, nil}}
	begins(t, s, l...)
	holds(t, s, true, 2, 2, 11, 13, 17)
	was.stays(t, d)
	want(t, "Commit", s.Commit(), api.OK)
	holds(t, s, false, 2+5)

	wanted := []byte(was.image)
	copy(wanted[256*13:], "home") // was pending
	n := int64(64 + 2)
	for i, x := range []api.Record{
		patch(2, 40, []byte("over")...), patch(2, 44, []byte(" a piece")...),
		patch(13, 2, 'p'), // of "pe" over "me" the e was there
		patch(17, 250, []byte("to")...), commitOf(4),
	} {
		block, at := sectorAt(small, n+int64(i))
		copy(wanted[256*block+at:], sectorOf(t, n+int64(i), x))
	}
	got := faceOf(d)
	if got.image != string(wanted) {
		t.Fatal("the log has other records, or the disk is another one")
	}
	var home []waiting
	for _, block := range []int{2, 13, 17} {
		page := bytes.Clone(wanted[256*block:][:256])
		for _, x := range l {
			if x.block == block {
				copy(page[x.off:], x.b)
			}
		}
		home = append(home, waiting{block, string(page)})
	}
	if !slices.Equal(got.pending, home) {
		t.Fatalf("%d writes are pending", len(got.pending))
	}
	if ops := got.ops - was.ops; ops != 2+1+3 {
		t.Fatalf("%d operations", ops)
	}
}

// P10.4: a Commit without a change, or of a change that makes what was, is nothing; Changed has told its blocks.
func TestCommitOfNothing(t *testing.T) {
	d, s := fresh(t, small)
	commits(t, s, edit{2, 0, []byte("ab")}, edit{12, 9, []byte("cd")})
	before := faceOf(d)
	for _, x := range []struct {
		l       []edit
		changed []int
	}{
		{nil, nil},
		{[]edit{{2, 0, nil}, {17, 256, []byte{}}}, nil},
		{[]edit{{2, 0, []byte("ab")}}, []int{2}},
		{[]edit{{13, 0, make([]byte, 256)}, {2, 1, []byte("b\x00\x00")}}, []int{2, 13}},
		{[]edit{{12, 9, []byte("xy")}, {12, 10, []byte("d")}, {12, 9, []byte("c")}}, []int{12}},
	} {
		begins(t, s, x.l...)
		holds(t, s, true, 3, x.changed...)
		want(t, "Commit", s.Commit(), api.OK)
		holds(t, s, false, 3)
		before.stays(t, d)
	}
	commits(t, s, append(full(0, 13), edit{2, 0, []byte("aB")})...)
	holds(t, s, false, 5)
	if f := faceOf(d); len(f.pending) != 1 || f.pending[0].block != 2 {
		t.Fatal("a block that is as it was is written home")
	}
}

// P10.4: a lap's patches less one, a lap's and more, with a log that holds nothing and one that holds something.
func TestCommitTooLarge(t *testing.T) {
	for _, held := range []int{0, 2, 31, 32} {
		for _, patches := range []int{30, 31, 32, 33, 47, 48} {
			d, s := fresh(t, small)
			if held > 0 {
				commits(t, s, dots(7, smallBlocks, held-1)...)
			}
			was := state(t, s)
			l := dots(byte(patches), smallBlocks, patches)
			begins(t, s, l...)
			before := faceOf(d)
			e := s.Commit()
			if patches <= 31 {
				want(t, "Commit", e, api.OK)
				was = made(small, was, l...)
			} else {
				want(t, "Commit", e, api.ErrLog)
				before.stays(t, d)
				holds(t, s, false, held)
			}
			if state(t, s) != was {
				t.Fatal("something else is read")
			}
			want(t, "Commit once more", s.Commit(), api.ErrTxn)
			commits(t, s, edit{17, 200, []byte{1}})
			was = made(small, was, edit{17, 200, []byte{1}})
			if state(t, s) != was || state(t, crashed(t, d)) != was {
				t.Fatal("something else is read behind another Commit")
			}
		}
	}
}

// P10.4, P10.5: a checkpoint ahead just if there is no room for the patches and one record more.
func TestCommitRoom(t *testing.T) {
	for held := 2; held <= 32; held++ {
		for patches := 1; patches <= 31; patches++ {
			d, s := fresh(t, small)
			commits(t, s, dots(7, smallBlocks, held-1)...)
			holds(t, s, false, held)
			was, supers := faceOf(d), d.Image()[:512]
			l := dots(9, smallBlocks, patches)
			commits(t, s, l...)
			ops := int(faceOf(d).ops-was.ops) - 1 - (patches+5)/6
			if held+patches+1 <= 32 {
				holds(t, s, false, held+patches+1)
				if !bytes.Equal(d.Image()[:512], supers) {
					t.Fatalf("%d records, %d patches: a super is written", held, patches)
				}
				continue
			}
			holds(t, s, false, patches+1)
			super, tail := superOf(t, d)
			if super.Epoch != 5 || tail != 64+int64(held+patches+1) || bytes.Equal(d.Image()[:512], supers) {
				t.Fatalf("%d records, %d patches: the super %v, and the log ends at %d", held, patches, super, tail)
			}
			if blocks := ops - 3; blocks < (patches+4)/4 || blocks > (patches+4)/4+1 {
				t.Fatalf("%d records, %d patches: %d operations more than there should be", held, patches, ops)
			}
		}
	}
}

// P10.5: what a Checkpoint writes.
func TestCheckpoint(t *testing.T) {
	d, s := fresh(t, small)
	before := faceOf(d)
	want(t, "Checkpoint of a log that holds nothing", s.Checkpoint(), api.OK)
	before.stays(t, d)
	now := made(small, state(t, s), dots(5, smallBlocks, 20)...)
	commits(t, s, dots(5, smallBlocks, 20)...)
	for n := range 3 {
		held := s.Held()
		super, tail := superOf(t, d)
		twin := d.Clone()
		want(t, "Flush", twin.Flush(), api.OK)
		super.Epoch, super.Head = int64(4+n), tail
		want(t, "noting a super", note(t, twin, super), api.OK)
		if held == 0 {
			t.Fatal("the log holds nothing")
		}
		want(t, "Checkpoint", s.Checkpoint(), api.OK)
		faceOf(twin).stays(t, d)
		holds(t, s, false, 0)
		want(t, "Checkpoint once more", s.Checkpoint(), api.OK)
		faceOf(twin).stays(t, d)
		if state(t, s) != now {
			t.Fatal("something else is read")
		}
		x := edit{12, 100 + n, []byte{99}}
		commits(t, s, x)
		now = made(small, now, x)
	}
	if state(t, crashed(t, d)) != now {
		t.Fatal("something else is read behind a crash")
	}
}

// opensAt is a store of small whose super has that epoch and that head, and its disk.
func opensAt(t *testing.T, epoch, head int64) (*disk.Disk, *txn.Store) {
	t.Helper()
	d := begun(t, api.Super{Epoch: epoch - 1, G: small, Head: head - 32})
	return d, open(t, d)
}

// P10.4, P10.5: a super whose next one has an error, as there is no Epoch behind it.
func TestNoEpoch(t *testing.T) {
	d, s := opensAt(t, most, 1000)
	before := faceOf(d)
	want(t, "Checkpoint of a log that holds nothing", s.Checkpoint(), api.OK)
	before.stays(t, d)
	commits(t, s, edit{2, 0, []byte("ab")}, edit{11, 0, []byte("cd")})
	was, twin := state(t, s), d.Clone()
	want(t, "Flush", twin.Flush(), api.OK)
	for range 2 {
		want(t, "Checkpoint", s.Checkpoint(), api.ErrFull)
		faceOf(twin).stays(t, d)
		holds(t, s, false, 3)
		want(t, "Flush", twin.Flush(), api.OK)
	}
	for patches := 29; patches <= 31; patches++ {
		begins(t, s, dots(200, smallBlocks, patches)...)
		want(t, "Commit", s.Commit(), api.ErrFull)
		faceOf(twin).stays(t, d)
		holds(t, s, false, 3)
		if state(t, s) != was {
			t.Fatal("something else is read")
		}
		want(t, "Flush", twin.Flush(), api.OK)
	}
	begins(t, s, dots(200, smallBlocks, 32)...)
	want(t, "Commit", s.Commit(), api.ErrLog)
	commits(t, s, dots(200, smallBlocks, 28)...)
	holds(t, s, false, 32)
	begins(t, s, edit{2, 0, []byte("x")})
	want(t, "Commit", s.Commit(), api.ErrFull)
	commits(t, s)
	refused(t, d.Clone(), api.ErrFull)
}

// P10.4, P10.5: heads that come to their end.
func TestNoHead(t *testing.T) {
	d, s := opensAt(t, 5, most-5)
	was := state(t, s)
	before := faceOf(d)
	for patches := 5; patches <= 31; patches++ {
		begins(t, s, dots(byte(patches), smallBlocks, patches)...)
		want(t, "Commit", s.Commit(), api.ErrFull)
		before.stays(t, d)
		holds(t, s, false, 0)
	}
	begins(t, s, dots(200, smallBlocks, 32)...)
	want(t, "Commit", s.Commit(), api.ErrLog)
	if state(t, s) != was {
		t.Fatal("something else is read")
	}
	commits(t, s, dots(200, smallBlocks, 2)...)
	was = state(t, s)
	before = faceOf(d)
	begins(t, s, dots(201, smallBlocks, 2)...)
	want(t, "Commit", s.Commit(), api.ErrFull)
	before.stays(t, d)
	want(t, "Checkpoint", s.Checkpoint(), api.OK)
	begins(t, s, dots(201, smallBlocks, 2)...)
	want(t, "Commit", s.Commit(), api.ErrFull)
	if state(t, s) != was {
		t.Fatal("something else is read")
	}
	commits(t, s, edit{17, 0, []byte{1, 2}})
	holds(t, s, false, 2)
	want(t, "Checkpoint at the greatest head", s.Checkpoint(), api.OK)
	holds(t, s, false, 0)
	begins(t, s, edit{17, 0, []byte{3}})
	want(t, "Commit", s.Commit(), api.ErrFull)
	commits(t, s, edit{17, 0, []byte{1, 2}})
	refused(t, d.Clone(), api.ErrFull)
}

// P10.8: a Commit of at most (lap - 1) / 6 changed blocks is never told ErrLog, whatever the log holds, and there is one of one block more that is.
func TestCommitHasRoom(t *testing.T) {
	roll := dice(108)
	for _, log := range []int{8, 9, 10, 11, 12, 13, 14, 15, 16, 31, 64, 255, 256} {
		g := api.Geometry{Log: log, Dir: 1, Extents: 50}
		_, _, g.Blocks = areas(g)
		_, s := fresh(t, g)
		blocks := usable(g)
		most := (4*log - 1) / 6
		now := state(t, s)
		for n := range 12 {
			many := most
			if n > 2 {
				many = roll.from(1, most)
			}
			first := roll.from(0, len(blocks)-many)
			l := full(byte(n+1), blocks[first:first+many]...)
			commits(t, s, l...)
			now = made(g, now, l...)
		}
		begins(t, s, dots(200, blocks, 4*log)...)
		want(t, "Commit of as many patches as a lap", s.Commit(), api.ErrLog)
		if state(t, s) != now {
			t.Fatalf("a log of %d blocks: something else is read", log)
		}
	}
}

// P10.4: more blocks than are kept in memory, in one transaction and in several.
func TestCommitGreat(t *testing.T) {
	g := geometries[len(geometries)-1]
	d, s := fresh(t, g)
	blocks := usable(g)
	for n := range 4 {
		var l []edit
		for i := range 1023 {
			l = append(l, edit{blocks[(300*n+i)%len(blocks)], 3, []byte{byte(n + 1), byte(i), byte(i >> 8)}})
		}
		now := made(g, state(t, s), l...)
		commits(t, s, l...)
		holds(t, s, false, 1024)
		f := faceOf(d)
		rising := slices.IsSortedFunc(f.pending, func(a, b waiting) int { return a.block - b.block })
		if len(f.pending) != 1023 || !rising {
			t.Fatalf("%d writes are pending, rising: %v", len(f.pending), rising)
		}
		if state(t, s) != now {
			t.Fatal("something else is read")
		}
	}
	begins(t, s)
	for i := range 1024 {
		want(t, "Write", s.Write(blocks[i], 9, []byte{1}), api.OK)
	}
	want(t, "Commit", s.Commit(), api.ErrLog)
	now := state(t, s)
	if state(t, crashed(t, d)) != now {
		t.Fatal("something else is read behind a crash")
	}
}

// P10.9: what is refused, and what is aborted, has changed no byte that is read, then and behind a crash.
func TestRefusedIsNothing(t *testing.T) {
	for seed := range 40 {
		r := dice(seed)
		d, s := used(t)
		was := state(t, s)
		for range 20 {
			s = refuses(t, &r, d, s)
			if state(t, s) != was {
				t.Fatal("something else is read")
			}
		}
		if state(t, crashed(t, d, r.bytes(9)...)) != was {
			t.Fatal("something else is read behind a crash")
		}
	}
}

// refuses does one of the things that are refused, aborted or cut off ahead of their Commit, and answers the store as it goes on.
func refuses(t *testing.T, r *dice, d *disk.Disk, s *txn.Store) *txn.Store {
	t.Helper()
	c := r.bytes(1)[0]
	switch r.from(0, 4) {
	case 0:
		begins(t, s)
		for _, block := range smallBlocks {
			want(t, "Write", s.Write(block, 0, r.bytes(256)), api.OK)
		}
		want(t, "Commit", s.Commit(), api.ErrLog)
	case 1:
		begins(t, s, full(c, 2, 17, 13)...)
		want(t, "Write", s.Write(18, 0, []byte{c}), api.ErrArg)
		want(t, "Write", s.Write(2, 250, make([]byte, 7)), api.ErrArg)
		want(t, "Begin", s.Begin(), api.ErrBusy)
		want(t, "Checkpoint", s.Checkpoint(), api.ErrBusy)
		refusesRead(t, s, r.from(3, 10), 0, 1, api.ErrArg)
		want(t, "Abort", s.Abort(), api.OK)
	case 2:
		want(t, "Write", s.Write(2, 0, []byte{c, 2, 3}), api.ErrTxn)
		want(t, "Commit", s.Commit(), api.ErrTxn)
		want(t, "Abort", s.Abort(), api.ErrTxn)
	case 3:
		begins(t, s, full(c, 12)...)
		return crashed(t, d, r.bytes(6)...)
	case 4:
		begins(t, s, full(c, 12, 2)...)
		return open(t, d)
	}
	return s
}
