package ring_test

import (
	"math"
	"slices"
	"testing"

	"attic/api"
	"attic/disk"
	"attic/ring"
)

// writesOf is the writes by which records come from tail on, put together record by record: one is begun with the
// first record, and with each that stands in a block's first sector.
func writesOf(t *testing.T, d *disk.Disk, base, blocks int, tail int64, l []api.Record) []waiting {
	t.Helper()
	reads := map[int]string{}
	for i := range blocks {
		b, e := d.Read(base + i)
		want(t, "Read", e, api.OK)
		reads[base+i] = string(b)
	}
	var out []waiting
	for i, x := range l {
		n := tail + int64(i)
		at := int(n % int64(4*blocks))
		block, from := base+at/4, 64*(at%4)
		if i == 0 || from == 0 {
			out = append(out, waiting{block, ""})
		}
		old := reads[block]
		reads[block] = old[:from] + string(sectorOf(t, n, x)) + old[from+64:]
		out[len(out)-1].bytes = reads[block]
	}
	return out
}

// appends holds that Append writes just what writesOf says, and nothing else.
func appends(t *testing.T, d *disk.Disk, r *ring.Ring, base, blocks int, l ...api.Record) []waiting {
	t.Helper()
	before, writes := faceOf(d), writesOf(t, d, base, blocks, r.Tail(), l)
	want(t, "Append", r.Append(l...), api.OK)
	before.pending = append(before.pending, writes...)
	before.ops += int64(len(writes))
	before.stays(t, d)
	return writes
}

// wantBlocks holds that the writes are of those blocks.
func wantBlocks(t *testing.T, got []waiting, blocks ...int) {
	t.Helper()
	var l []int
	for _, w := range got {
		l = append(l, w.block)
	}
	if !slices.Equal(l, blocks) {
		t.Fatalf("the blocks %v are written, not %v", l, blocks)
	}
}

// P7.2: which blocks are written, in which order, with what: from each sector on, as many as there is room for.
func TestAppendWrites(t *testing.T) {
	roll := dice(75)
	for _, blocks := range []int{1, 2, 3, 5} {
		for _, start := range []int64{0, int64(4 * blocks), 1 << 40, most - 100} {
			for off := range int64(4 * blocks) {
				for many := range 4*blocks + 1 {
					d, head := noise(t, blocks+3), start+off
					r, _ := open(t, d, 2, blocks, head)
					l := roll.records(many)
					appends(t, d, r, 2, blocks, l...)
					holds(t, r, blocks, head, l...)
					opens(t, d, 2, blocks, head, l...)
				}
			}
		}
	}
}

// P7.2: records that go round within one Append, and such that come back to the block in which they began.
func TestAppendRound(t *testing.T) {
	roll := dice(76)
	for _, c := range []struct {
		blocks int
		head   int64
		many   int
		want   []int
	}{
		{2, 8, 8, []int{1, 2}},
		{2, 8, 4, []int{1}},
		{2, 8, 5, []int{1, 2}},
		{2, 11, 1, []int{1}},
		{2, 11, 2, []int{1, 2}},
		{2, 12, 4, []int{2}},
		{2, 15, 1, []int{2}},
		{2, 15, 2, []int{2, 1}},
		{2, 14, 6, []int{2, 1}},
		{2, 14, 7, []int{2, 1, 2}},
		{2, 14, 8, []int{2, 1, 2}},
		{2, 9, 7, []int{1, 2}},
		{2, 9, 8, []int{1, 2, 1}},
		{3, 13, 12, []int{1, 2, 3, 1}},
		{3, 23, 12, []int{3, 1, 2, 3}},
		{1, 4, 4, []int{1}},
		{1, 5, 3, []int{1}},
		{1, 5, 4, []int{1, 1}},
		{1, 7, 2, []int{1, 1}},
		{1, 7, 4, []int{1, 1}},
		{2, 8, 0, nil},
	} {
		d := noise(t, 5)
		r, _ := open(t, d, 1, c.blocks, c.head)
		l := roll.records(c.many)
		wantBlocks(t, appends(t, d, r, 1, c.blocks, l...), c.want...)
		opens(t, d, 1, c.blocks, c.head, l...)
	}
}

// P7.2: the greatest ring, full within one Append.
func TestAppendGreatest(t *testing.T) {
	roll := dice(77)
	d := fresh(t, 257)
	r, _ := open(t, d, 1, 256, 1022)
	l := roll.records(1024)
	before := faceOf(d)
	want(t, "Append of one more than Room", r.Append(append(l, commit(1))...), api.ErrRing)
	before.stays(t, d)
	appends(t, d, r, 1, 256, l...)
	holds(t, r, 256, 1022, l...)
	opens(t, d, 1, 256, 1022, l...)
}

// P7.2: the other sectors of a block have what Read answers of it: what is pending ahead of what the medium has.
func TestAppendKeeps(t *testing.T) {
	roll := dice(78)
	d := noise(t, 3)
	r, _ := open(t, d, 1, 2, 9)
	b := roll.bytes(256)
	want(t, "Write", d.Write(1, b), api.OK)
	want(t, "Write", d.Write(2, roll.bytes(256)), api.OK)
	x, y := roll.record(), roll.record()
	appends(t, d, r, 1, 2, x)
	got, _ := d.Read(1)
	if string(got[:64]) != string(b[:64]) || string(got[64:128]) != string(sectorOf(t, 9, x)) || string(got[128:]) != string(b[128:]) {
		t.Fatal("the other sectors have changed")
	}
	want(t, "Write", d.Write(1, b), api.OK)
	appends(t, d, r, 1, 2, y)
	got, _ = d.Read(1)
	if string(got[:128]) != string(b[:128]) || string(got[128:192]) != string(sectorOf(t, 10, y)) || string(got[192:]) != string(b[192:]) {
		t.Fatal("the sectors have come back that the disk has no more")
	}
	holds(t, r, 2, 9, x, y)
}

// notAppended holds that Append answers that error, and does nothing.
func notAppended(t *testing.T, d *disk.Disk, r *ring.Ring, blocks int, held []api.Record, want api.Errno, l ...api.Record) {
	t.Helper()
	before, head := faceOf(d), r.Head()
	if e := r.Append(l...); e != want {
		t.Fatalf("Append of %d records, Room %d: error %d, not %d", len(l), r.Room(), int(e), int(want))
	}
	before.stays(t, d)
	holds(t, r, blocks, head, held...)
}

// P7.2: no records.
func TestAppendNone(t *testing.T) {
	d := fresh(t, 1)
	r, _ := open(t, d, 0, 1, 5)
	notAppended(t, d, r, 1, nil, api.OK)
	notAppended(t, d, r, 1, nil, api.OK, []api.Record{}...)
	l := []api.Record{commit(1), commit(2), commit(3), commit(4)}
	want(t, "Append", r.Append(l...), api.OK)
	notAppended(t, d, r, 1, l, api.OK)
	// No operation is done: what is armed stays armed.
	want(t, "Arm", d.Arm(1), api.OK)
	notAppended(t, d, r, 1, l, api.OK)
	want(t, "Sync", r.Sync(), api.ErrPower)
	notAppended(t, d, r, 1, l, api.OK)
}

// P7.2: as many as Room, and one more, at each Room.
func TestAppendRoom(t *testing.T) {
	roll := dice(79)
	for _, blocks := range []int{1, 2, 3} {
		for held := range 4*blocks + 1 {
			d := fresh(t, 4)
			r, _ := open(t, d, 1, blocks, 30)
			l := roll.records(held)
			want(t, "Append", r.Append(l...), api.OK)
			room := 4*blocks - held
			for _, more := range []int{1, 2, 4, 100} {
				notAppended(t, d, r, blocks, l, api.ErrRing, roll.records(room+more)...)
			}
			x := roll.records(room)
			appends(t, d, r, 1, blocks, x...)
			all := slices.Concat(l, x)
			holds(t, r, blocks, 30, all...)
			notAppended(t, d, r, blocks, all, api.ErrRing, commit(1))
			opens(t, d, 1, blocks, 30, all...)
		}
	}
}

// wrong are records that may not be.
func wrong() []api.Record {
	return []api.Record{
		{},
		{Kind: 3},
		{Kind: -1},
		{Kind: api.RcPatch},
		{Kind: api.RcPatch, Data: []byte{}},
		patch(0, 0, make([]byte, 45)...),
		patch(-1, 0, 1),
		patch(2048, 0, 1),
		patch(math.MaxInt, math.MaxInt, 1),
		patch(math.MinInt, math.MinInt, 1),
		patch(0, -1, 1),
		patch(0, 256, 1),
		patch(0, 255, 1, 2),
		{Kind: api.RcPatch, Data: []byte{1}, Many: 1},
		commit(-1),
		commit(1<<16 + 1),
		commit(math.MinInt),
		{Kind: api.RcCommit, Block: 1},
		{Kind: api.RcCommit, Off: 1},
		{Kind: api.RcCommit, Data: []byte{1}},
		{Kind: math.MaxInt, Block: math.MaxInt, Off: math.MaxInt, Many: math.MaxInt},
	}
}

// P7.2: a record that may not be, alone and at each place among others.
func TestAppendWrong(t *testing.T) {
	roll := dice(80)
	d := fresh(t, 2)
	r, _ := open(t, d, 0, 2, 8)
	held := roll.records(2)
	want(t, "Append", r.Append(held...), api.OK)
	for _, x := range wrong() {
		for many := range 7 {
			for at := range many + 1 {
				notAppended(t, d, r, 2, held, api.ErrRecord, slices.Insert(roll.records(many), at, x)...)
			}
		}
	}
}

// P7.2: Tail at MaxHead, records that would go just up to it, and above it.
func TestAppendLong(t *testing.T) {
	roll := dice(81)
	for below := range int64(9) {
		for _, many := range []int{1, 2, 3, 4, 5, 7, 8} {
			d := fresh(t, 2)
			r, _ := open(t, d, 0, 2, most-below)
			l := roll.records(many)
			if int64(many) > below {
				notAppended(t, d, r, 2, nil, api.ErrLong, l...)
				continue
			}
			appends(t, d, r, 0, 2, l...)
			holds(t, r, 2, most-below, l...)
			opens(t, d, 0, 2, most-below, l...)
			rest := roll.records(int(below) - many)
			appends(t, d, r, 0, 2, rest...)
			all := slices.Concat(l, rest)
			if r.Tail() != most {
				t.Fatalf("Tail %d", r.Tail())
			}
			if below < 8 {
				notAppended(t, d, r, 2, all, api.ErrLong, commit(1))
			}
			notAppended(t, d, r, 2, all, api.OK)
			want(t, "Trim up to MaxHead", r.Trim(most), api.OK)
			notAppended(t, d, r, 2, nil, api.ErrLong, commit(1))
			opens(t, d, 0, 2, most)
		}
	}
}

// P7.1, P7.2: a disk may have records above MaxHead; behind them nothing is appended.
func TestAboveMaxHead(t *testing.T) {
	roll := dice(82)
	d := fresh(t, 2)
	l := roll.records(3)
	for i, x := range l {
		placed(t, d, 0, 2, most+int64(i), x)
	}
	r, _ := open(t, d, 0, 2, most)
	holds(t, r, 2, most, l...)
	notAppended(t, d, r, 2, l, api.ErrLong, commit(1))
	// The words name ErrLong ahead of no records.
	notAppended(t, d, r, 2, l, api.ErrLong)
	if got := ring.Lap(r.Tail(), 2); got != 0 {
		t.Fatalf("Lap of %d: %d", r.Tail(), got)
	}
	want(t, "Trim", r.Trim(most+2), api.OK)
	holds(t, r, 2, most+2, l[2])
	refused(t, d, 0, 2, r.Head(), api.ErrArg)
}

// P7.2, R2: the order of Append's errors.
func TestAppendOrder(t *testing.T) {
	d := fresh(t, 1)
	r, _ := open(t, d, 0, 1, most-3)
	held := []api.Record{commit(7)}
	want(t, "Append", r.Append(held...), api.OK)
	bad := api.Record{Kind: 9}
	c := commit(1)
	for _, on := range []bool{true, false} {
		if !on {
			want(t, "Crash", d.Crash(), api.OK)
		}
		notAppended(t, d, r, 1, held, api.ErrRecord, bad)
		notAppended(t, d, r, 1, held, api.ErrRecord, c, c, c, bad)
		notAppended(t, d, r, 1, held, api.ErrRecord, c, c, bad)
		notAppended(t, d, r, 1, held, api.ErrRing, c, c, c, c)
		notAppended(t, d, r, 1, held, api.ErrLong, c, c, c)
		notAppended(t, d, r, 1, held, api.OK)
	}
	notAppended(t, d, r, 1, held, api.ErrPower, c, c)
	notAppended(t, d, r, 1, held, api.ErrPower, c)
}

// THE BOUND: a list that is far too long is refused at once.
func TestAppendFarTooMany(t *testing.T) {
	d := fresh(t, 256)
	r, _ := open(t, d, 0, 256, 0)
	l := slices.Repeat([]api.Record{commit(1)}, 1<<20)
	notAppended(t, d, r, 256, nil, api.ErrRing, l...)
	l[1<<20-1] = api.Record{}
	notAppended(t, d, r, 256, nil, api.ErrRecord, l...)
}
