package txn_test

import (
	"bytes"
	"slices"
	"testing"

	"attic/api"
	"attic/disk"
	"attic/txn"
)

func patch(block, off int, data ...byte) api.Record {
	return api.Record{Kind: api.RcPatch, Block: block, Off: off, Data: data}
}

func commitOf(many int) api.Record { return api.Record{Kind: api.RcCommit, Many: many} }

// places writes records into the log of small, from a number on.
func places(t *testing.T, d *disk.Disk, n int64, l ...api.Record) {
	t.Helper()
	for i, x := range l {
		block, at := sectorAt(small, n+int64(i))
		b, e := d.Read(block)
		want(t, "Read", e, api.OK)
		copy(b[at:], sectorOf(t, n+int64(i), x))
		want(t, "Write", d.Write(block, b), api.OK)
	}
	want(t, "Flush", d.Flush(), api.OK)
}

// begun is a disk with any bytes in its blocks that may be used, a log of noughts, and one super.
func begun(t *testing.T, s api.Super) *disk.Disk {
	t.Helper()
	d := noise(t, s.G.Blocks)
	for block := range 3 + s.G.Log {
		if block != 2 {
			want(t, "Write", d.Write(block, make([]byte, 256)), api.OK)
		}
	}
	want(t, "noting a super", note(t, d, s), api.OK)
	return d
}

const head = 100 // of what is laid by hand

func laid(t *testing.T, l ...api.Record) *disk.Disk {
	t.Helper()
	d := begun(t, api.Super{Epoch: 7, G: small, Head: head})
	places(t, d, head, l...)
	return d
}

// opensAs holds that Open makes of a disk, but for its supers, what edits make of it, with just the writes that are asked for.
func opensAs(t *testing.T, d *disk.Disk, s api.Super, writes int, l ...edit) *txn.Store {
	t.Helper()
	before := faceOf(d)
	wanted := []byte(before.image)
	for _, x := range l {
		copy(wanted[256*x.block+x.off:], x.b)
	}
	copy(wanted[256*(s.Epoch%2):], blockOf(t, s))
	store := open(t, d)
	if got := faceOf(d); got.image != string(wanted) || len(got.pending) > 0 || got.ops != before.ops+int64(writes)+3 {
		t.Fatalf("Open leaves another disk, or has done %d operations", got.ops-before.ops)
	}
	holds(t, store, false, 0)
	return store
}

// P10.2: what counts of a log is laid into its blocks, in order; the log holds nothing then, a lap on.
func TestOpenRedoes(t *testing.T) {
	for _, x := range []struct {
		log    []api.Record
		tail   int64
		writes int
		edits  []edit
	}{
		{nil, 0, 0, nil},
		{[]api.Record{patch(2, 0, 1)}, 1, 0, nil},
		{[]api.Record{commitOf(0)}, 1, 0, nil},
		{[]api.Record{patch(2, 0, 1), commitOf(1)}, 2, 1, []edit{{2, 0, []byte{1}}}},
		{[]api.Record{patch(17, 255, 9), patch(11, 0, 8, 7), commitOf(2)}, 3, 2, []edit{{17, 255, []byte{9}}, {11, 0, []byte{8, 7}}}},
		{[]api.Record{patch(2, 3, 1, 2, 3), commitOf(1), patch(2, 4, 9), commitOf(1)}, 4, 1, []edit{{2, 3, []byte{1, 9, 3}}}},
		{[]api.Record{patch(2, 3, 1), commitOf(1), patch(2, 3, 2), commitOf(2)}, 4, 1, []edit{{2, 3, []byte{1}}}},
		{[]api.Record{patch(2, 3, 1), commitOf(2), patch(2, 3, 2), commitOf(1)}, 4, 0, nil},
		{[]api.Record{patch(2, 3, 1), commitOf(1), patch(12, 3, 2), patch(0, 0, 3)}, 4, 1, []edit{{2, 3, []byte{1}}}},
		{[]api.Record{patch(2, 3, 1), commitOf(1), commitOf(0), patch(14, 0, 5), commitOf(1)}, 5, 2, []edit{{2, 3, []byte{1}}, {14, 0, []byte{5}}}},
	} {
		d := laid(t, x.log...)
		next := api.Super{Epoch: 8, G: small, Head: head + x.tail + 32}
		s := opensAs(t, d, next, x.writes, x.edits...)
		next.Head += 32
		next.Epoch++
		was := state(t, s)
		s = opensAs(t, d, next, 0)
		if state(t, s) != was {
			t.Fatal("opened once more something else is read")
		}
		commits(t, s, edit{2, 0, []byte{200, 201}})
		reads(t, crashed(t, d), 2, 0, []byte{200, 201})
	}
}

// P10.2: a block that is home already is not written; one that was torn there is.
func TestOpenWritesWhatIsAnother(t *testing.T) {
	d := laid(t)
	page, _ := d.Read(13)
	other, _ := d.Read(14)
	places(t, d, head, patch(13, 7, page[7:20]...), patch(14, 0, other[0]^1), commitOf(2))
	next := api.Super{Epoch: 8, G: small, Head: head + 3 + 32}
	opensAs(t, d, next, 1, edit{14, 0, []byte{other[0] ^ 1}})
}

// P10.2: the blocks go home rising, each once, behind which there is a flush, and then the super.
func TestOpenOrder(t *testing.T) {
	d := laid(t, patch(16, 0, 1), patch(2, 0, 2), patch(12, 0, 3), commitOf(3), patch(16, 9, 4), patch(11, 0, 5), commitOf(2))
	image := []byte(faceOf(d).image)
	for n, blocks := range [][]int{{2}, {2, 11}, {2, 11, 12}, {2, 11, 12, 16}} {
		for w, block := range blocks { // of what is pending just this one reaches the disk
			c := d.Clone()
			picks := make([]uint8, w+1)
			picks[w] = 15
			cutOff(t, c, n+1, picks...)
			got := c.Image()
			if bytes.Equal(got, image) {
				t.Fatalf("the %d-th write of %d is not there", w, n+1)
			}
			copy(got[256*block:256*block+256], image[256*block:])
			if !bytes.Equal(got, image) {
				t.Fatalf("the %d-th write of %d is not that of the block %d", w, n+1, block)
			}
		}
	}
	c := d.Clone()
	cutOff(t, c, 5, 15, 15, 15, 15, 15)
	if !bytes.Equal(c.Image()[:512], image[:512]) {
		t.Error("a super is written ahead of the flush")
	}
	cutOff(t, d, 6)
	if b, _ := d.Read(16); b[0] != 1 || b[9] != 4 || !bytes.Equal(d.Image()[:512], image[:512]) {
		t.Error("the flush ahead of the super is not there")
	}
}

// P10.2: patches that count, of blocks that may be used and of such that may not; where none counts, it does not matter.
func TestOpenBlocks(t *testing.T) {
	for _, block := range []int{0, 1, 2, 3, 4, 9, 10, 11, 12, 13, 14, 17, 18, 19, 20, 21, 2047} {
		for _, l := range [][]api.Record{
			{patch(block, 0, 1), commitOf(1)},
			{patch(2, 0, 1), patch(block, 255, 1), commitOf(2)},
			{patch(2, 0, 1), commitOf(1), patch(block, 5, 1), commitOf(1), patch(2, 1, 1)},
		} {
			if d := laid(t, l...); slices.Contains(smallBlocks, block) {
				open(t, d)
			} else {
				refused(t, d, api.ErrCorrupt)
			}
		}
		open(t, laid(t, patch(2, 0, 1), commitOf(1), patch(block, 0, 1)))
		open(t, laid(t, patch(block, 0, 1), commitOf(2)))
	}
}

// P10.2: a disk that is none, one without power, and what has no super.
func TestOpenRefused(t *testing.T) {
	for _, d := range []*disk.Disk{nil, {}} {
		if s, e := txn.Open(d); s != nil || e != api.ErrMade {
			t.Errorf("Open of a disk that no call made: %v, error %d", s, int(e))
		}
	}
	for _, blocks := range []int{1, 2, 3, 18, 20, 2048} {
		for _, d := range []*disk.Disk{blank(t, blocks), noise(t, blocks)} {
			refused(t, d, api.ErrCorrupt)
			want(t, "Crash", d.Crash(), api.OK)
			refused(t, d, api.ErrPower)
		}
	}
	d := formatted(t, small)
	want(t, "Crash", d.Crash(), api.OK)
	refused(t, d, api.ErrPower)
}

// P10.2: a disk that is not just as large as its super says.
func TestOpenSizes(t *testing.T) {
	least := api.Geometry{Blocks: 18, Log: 8, Dir: 1, Extents: 1}
	for _, g := range []api.Geometry{small, least} {
		image := formatted(t, g).Image()
		for blocks := 1; blocks <= g.Blocks+2; blocks++ {
			d, e := disk.Of(append(slices.Clone(image), make([]byte, 512)...)[:256*blocks])
			want(t, "Of", e, api.OK)
			if blocks == g.Blocks {
				open(t, d)
			} else {
				refused(t, d, api.ErrCorrupt)
			}
		}
	}
}

// P10.2: which super counts.
func TestOpenSupers(t *testing.T) {
	older, newer := api.Super{Epoch: 8, G: small, Head: 100}, api.Super{Epoch: 9, G: small, Head: 200}
	for _, x := range []struct {
		a, b []byte
		next api.Super
	}{
		{blockOf(t, older), blockOf(t, newer), api.Super{Epoch: 10, G: small, Head: 232}},
		{blockOf(t, older), make([]byte, 256), api.Super{Epoch: 9, G: small, Head: 132}},
		{make([]byte, 256), blockOf(t, newer), api.Super{Epoch: 10, G: small, Head: 232}},
		{blockOf(t, newer), blockOf(t, older), api.Super{}},
		{blockOf(t, newer), make([]byte, 256), api.Super{}},
		{make([]byte, 256), blockOf(t, older), api.Super{}},
	} {
		d := laid(t)
		want(t, "Write", d.Write(0, x.a), api.OK)
		want(t, "Write", d.Write(1, x.b), api.OK)
		want(t, "Flush", d.Flush(), api.OK)
		if x.next == (api.Super{}) {
			refused(t, d, api.ErrCorrupt)
		} else {
			opensAs(t, d, x.next, 0)
		}
	}
}

// P10.2: numbers that have come to their end, and those that have just not.
func TestOpenFull(t *testing.T) {
	for _, x := range []struct {
		epoch, head int64
		wanted      api.Errno
	}{
		{most - 1, 100, api.OK}, {most, 100, api.ErrFull}, {1, 0, api.OK},
		{3, most - 34, api.OK}, {3, most - 33, api.ErrFull}, {3, most - 2, api.ErrFull}, {3, most - 1, api.ErrFull}, {3, most, api.ErrFull}, {most, most, api.ErrFull},
	} {
		d := begun(t, api.Super{Epoch: x.epoch, G: small, Head: x.head})
		places(t, d, x.head, patch(2, 0, 1), commitOf(1))
		if x.wanted != api.OK {
			refused(t, d, x.wanted)
			continue
		}
		b, _ := d.Read(2)
		writes := 1
		if b[0] == 1 {
			writes = 0
		}
		opensAs(t, d, api.Super{Epoch: x.epoch + 1, G: small, Head: x.head + 34}, writes, edit{2, 0, []byte{1}})
	}
}

// P10.2: a record of the lap to come.
func TestOpenLapAhead(t *testing.T) {
	l := []api.Record{patch(2, 0, 1), commitOf(1), patch(2, 0, 3)}
	for n, wanted := range map[int64]api.Errno{
		head + 3 + 32: api.ErrCorrupt,
		head + 3 + 31: api.ErrCorrupt, // it stands over the last record: so the lap to come begins with it
		head + 3 + 33: api.OK,
		head + 3 + 64: api.OK,
		head + 4:      api.OK,
	} {
		d := laid(t, l...)
		places(t, d, n, commitOf(0))
		if wanted != api.OK {
			refused(t, d, wanted)
		} else {
			open(t, d)
		}
	}
	var whole []api.Record // a log without room
	var bytes []byte
	for n := range 31 {
		whole = append(whole, patch(11, n, byte(n)))
		bytes = append(bytes, byte(n))
	}
	d := laid(t, append(whole, commitOf(31))...)
	opensAs(t, d, api.Super{Epoch: 8, G: small, Head: head + 64}, 1, edit{11, 0, bytes})
}

// P10.2, R2: of several errors the answer is the one that the chapter names first.
func TestOpenFirstError(t *testing.T) {
	for _, x := range []struct {
		epoch  int64
		block  int
		wanted api.Errno
	}{
		{most, 3, api.ErrCorrupt},
		{most, 2, api.ErrFull},
		{5, 2, api.ErrCorrupt},
	} {
		d := begun(t, api.Super{Epoch: x.epoch, G: small, Head: head})
		places(t, d, head, patch(x.block, 0, 1), commitOf(1))
		places(t, d, head+2+32, commitOf(0))
		refused(t, d, x.wanted)
		want(t, "Crash", d.Crash(), api.OK)
		refused(t, d, api.ErrPower)
	}
}

// P10.2: what is pending counts as what the disk reads.
func TestOpenReadsPending(t *testing.T) {
	d := laid(t)
	for i, x := range []api.Record{patch(2, 0, 1), commitOf(1)} {
		block, at := sectorAt(small, head+int64(i))
		b, _ := d.Read(block)
		copy(b[at:], sectorOf(t, head+int64(i), x))
		want(t, "Write", d.Write(block, b), api.OK)
	}
	reads(t, open(t, d), 2, 0, []byte{1})
	reads(t, crashed(t, d), 2, 0, []byte{1})
}

// R1, THE BOUND: a long log of many blocks is redone block by block.
func TestOpenGreat(t *testing.T) {
	g := geometries[len(geometries)-1]
	d, s := fresh(t, g)
	blocks := usable(g)
	var l []edit
	for i := range 1023 {
		l = append(l, edit{blocks[i], i % 256, []byte{byte(i + 1)}})
	}
	l[255].b[0] = 1 // a byte that is 0 makes no patch
	l[511].b[0], l[767].b[0] = 1, 1
	commits(t, s, l...)
	holds(t, s, false, 1024)
	now := state(t, s)
	if state(t, crashed(t, d)) != now {
		t.Fatal("something is lost")
	}
	s = open(t, d)
	for _, x := range l {
		reads(t, s, x.block, x.off, x.b)
	}
}

// P10.2, G5: whatever bytes a disk has: it opens, or is refused and left as it is; what opened once opens again.
func TestOpenAnyBytes(t *testing.T) {
	opened := 0
	for seed := range 3000 {
		r := dice(seed)
		var l []api.Record
		for range r.from(0, 6) {
			n := r.from(1, 3)
			l = append(l, patch(r.from(0, 21), r.from(0, 200), r.bytes(n)...), commitOf(r.from(0, 2)))
		}
		d := laid(t, l...)
		later := r.from(0, 2) == 0
		if later {
			places(t, d, int64(r.from(head, head+80)), commitOf(r.from(0, 1)))
		}
		image := d.Image()
		for range r.from(0, 2) {
			image[256*3+r.from(0, 700)] ^= 1 << r.from(0, 7)
		}
		d, _ = disk.Of(image)
		before := faceOf(d)
		s, e := txn.Open(d)
		if e != api.OK {
			want(t, "Open", e, api.ErrCorrupt)
			before.stays(t, d)
			continue
		}
		opened++
		if !later && state(t, s) != recovers(t, d, []string{state(t, s)}) {
			t.Fatal("opened again something else is read")
		}
	}
	if opened < 300 || opened > 2900 {
		t.Errorf("%d of 3000 disks opened", opened)
	}
}
