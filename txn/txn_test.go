package txn_test

import (
	"bytes"
	"math"
	"slices"
	"testing"

	"attic/api"
	"attic/disk"
	"attic/txn"
)

// dice is a row of numbers that is the same in each run.
type dice uint64

func (d *dice) next() uint64 {
	*d += 0x9e3779b97f4a7c15
	z := uint64(*d)
	z = (z ^ z>>30) * 0xbf58476d1ce4e5b9
	z = (z ^ z>>27) * 0x94d049bb133111eb
	return z ^ z>>31
}

func (d *dice) from(low, high int) int { return low + int(d.next()%uint64(high-low+1)) }

func (d *dice) bytes(n int) []byte {
	b := make([]byte, n)
	for i := range b {
		b[i] = byte(d.next())
	}
	return b
}

func want(t *testing.T, what string, got, want api.Errno) {
	t.Helper()
	if got != want {
		t.Fatalf("%s: error %d, not %d", what, int(got), int(want))
	}
}

// small is the least heap, with two blocks behind it that no area has. Its log has a lap of 32.
var small = api.Geometry{Blocks: 20, Log: 8, Dir: 1, Extents: 1}

// smallBlocks are the blocks of it that may be used.
var smallBlocks = []int{2, 11, 12, 13, 14, 15, 16, 17}

// areas is where a geometry's table, its heap, and what no area has begin.
func areas(g api.Geometry) (table, heap, end int) {
	table = 3 + g.Log
	heap = table + (g.Extents+31)/32 + (g.Extents+63)/64 + g.Dir
	return table, heap, heap + 4*g.Extents
}

// usable are the blocks that may be used, rising.
func usable(g api.Geometry) []int {
	l := []int{2}
	table, _, end := areas(g)
	for i := table; i < end; i++ {
		l = append(l, i)
	}
	return l
}

func blank(t *testing.T, blocks int) *disk.Disk {
	t.Helper()
	d, e := disk.New(blocks)
	want(t, "New", e, api.OK)
	return d
}

// noise is a disk with any bytes.
func noise(t *testing.T, blocks int) *disk.Disk {
	t.Helper()
	r := dice(blocks)
	d, e := disk.Of(r.bytes(256 * blocks))
	want(t, "Of", e, api.OK)
	return d
}

// formatted is a disk with an empty store.
func formatted(t *testing.T, g api.Geometry) *disk.Disk {
	t.Helper()
	d := blank(t, g.Blocks)
	want(t, "Format", txn.Format(d, g), api.OK)
	return d
}

func open(t *testing.T, d *disk.Disk) *txn.Store {
	t.Helper()
	s, e := txn.Open(d)
	if e != api.OK || s == nil {
		t.Fatalf("Open: %v, error %d", s, int(e))
	}
	return s
}

// refused holds that Open answers that error, nothing beside it, and does nothing.
func refused(t *testing.T, d *disk.Disk, want api.Errno) {
	t.Helper()
	before := faceOf(d)
	if s, e := txn.Open(d); s != nil || e != want {
		t.Fatalf("Open: %v, error %d, not %d", s, int(e), int(want))
	}
	before.stays(t, d)
}

func fresh(t *testing.T, g api.Geometry) (*disk.Disk, *txn.Store) {
	t.Helper()
	d := formatted(t, g)
	return d, open(t, d)
}

// crashed is the store behind a power that goes with those picks.
func crashed(t *testing.T, d *disk.Disk, picks ...uint8) *txn.Store {
	t.Helper()
	want(t, "Crash", d.Crash(picks...), api.OK)
	want(t, "Restart", d.Restart(), api.OK)
	return open(t, d)
}

// edit is bytes that are to stand in a block.
type edit struct {
	block, off int
	b          []byte
}

// full are edits by which each of those blocks is that byte, over and over.
func full(c byte, blocks ...int) []edit {
	var l []edit
	for _, block := range blocks {
		l = append(l, edit{block, 0, bytes.Repeat([]byte{c}, 256)})
	}
	return l
}

// begins begins a transaction, and writes in it.
func begins(t *testing.T, s *txn.Store, l ...edit) {
	t.Helper()
	want(t, "Begin", s.Begin(), api.OK)
	for _, x := range l {
		want(t, "Write", s.Write(x.block, x.off, x.b), api.OK)
	}
}

func commits(t *testing.T, s *txn.Store, l ...edit) {
	t.Helper()
	begins(t, s, l...)
	want(t, "Commit", s.Commit(), api.OK)
}

// reads holds that those bytes stand there.
func reads(t *testing.T, s *txn.Store, block, off int, b []byte) {
	t.Helper()
	if got, e := s.Read(block, off, len(b)); e != api.OK || !bytes.Equal(got, b) {
		t.Fatalf("Read(%d, %d, %d): %v, error %d, not %v", block, off, len(b), got, int(e), b)
	}
}

// refusesRead holds that Read answers that error, and nothing beside it.
func refusesRead(t *testing.T, s *txn.Store, block, off, n int, want api.Errno) {
	t.Helper()
	if b, e := s.Read(block, off, n); b != nil || e != want {
		t.Fatalf("Read(%d, %d, %d): %d bytes, error %d, not %d", block, off, n, len(b), int(e), int(want))
	}
}

// state is all that is read of the blocks that may be used.
func state(t *testing.T, s *txn.Store) string {
	t.Helper()
	var all []byte
	for _, block := range usable(s.Geometry()) {
		b, e := s.Read(block, 0, 256)
		if e != api.OK || len(b) != 256 {
			t.Fatalf("Read(%d, 0, 256): %d bytes, error %d", block, len(b), int(e))
		}
		all = append(all, b...)
	}
	return string(all)
}

// made is what edits make of a state.
func made(g api.Geometry, state string, l ...edit) string {
	all := []byte(state)
	for _, x := range l {
		copy(all[256*slices.Index(usable(g), x.block)+x.off:], x.b)
	}
	return string(all)
}

// holds looks at what a store tells of itself.
func holds(t *testing.T, s *txn.Store, busy bool, held int, changed ...int) {
	t.Helper()
	if s.Busy() != busy || s.Held() != held {
		t.Fatalf("Busy %v, Held %d, not %v and %d", s.Busy(), s.Held(), busy, held)
	}
	if got := slices.Collect(s.Changed()); !slices.Equal(got, changed) {
		t.Fatalf("Changed tells %v, not %v", got, changed)
	}
}

type waiting struct {
	block int
	bytes string
}

// face is all that a disk shows.
type face struct {
	image   string
	on      bool
	ops     int64
	pending []waiting
}

func faceOf(d *disk.Disk) face {
	f := face{image: string(d.Image()), on: d.On(), ops: d.Ops()}
	for i, b := range d.Pending() {
		f.pending = append(f.pending, waiting{i, string(b)})
	}
	return f
}

func (f face) stays(t *testing.T, d *disk.Disk) {
	t.Helper()
	g := faceOf(d)
	if g.image != f.image || g.on != f.on || g.ops != f.ops || !slices.Equal(g.pending, f.pending) {
		t.Fatalf("the disk is another one: Ops %d and %d, %d and %d pending, On %v and %v", f.ops, g.ops, len(f.pending), len(g.pending), f.on, g.on)
	}
}

// The chapter's example.
func TestExample(t *testing.T) {
	d, s := fresh(t, small)
	commits(t, s, edit{2, 0, []byte("ab")})
	holds(t, s, false, 2)
	log := d.Image()[256*3:][:256]
	n := int64(64) // Lap of the first super's Head
	if patch := (api.Record{Kind: api.RcPatch, Block: 2, Data: []byte("ab")}); !bytes.Equal(log[:64], sectorOf(t, n, patch)) {
		t.Error("the log's first sector has not the patch")
	}
	if commit := (api.Record{Kind: api.RcCommit, Many: 1}); !bytes.Equal(log[64:128], sectorOf(t, n+1, commit)) {
		t.Error("the log's second sector has not the commit")
	}
	if !bytes.Equal(log[128:], make([]byte, 128)) {
		t.Error("behind the commit there is something")
	}
	if f := faceOf(d); len(f.pending) != 1 || f.pending[0] != (waiting{2, "ab" + string(make([]byte, 254))}) {
		t.Errorf("%d writes are pending", len(f.pending))
	}
	s = crashed(t, d)
	reads(t, s, 2, 0, []byte("ab"))
	holds(t, s, false, 0)
}

// P10.3: the blocks that may be used, and those that may not.
func TestBlocks(t *testing.T) {
	for _, g := range []api.Geometry{
		small, {Blocks: 18, Log: 8, Dir: 1, Extents: 1}, {Blocks: 100, Log: 9, Dir: 3, Extents: 15}, {Blocks: 2048, Log: 256, Dir: 64, Extents: 256},
	} {
		d, s := fresh(t, g)
		want(t, "Begin", s.Begin(), api.OK)
		before := faceOf(d)
		l := usable(g)
		for block := -300; block < 2400; block++ {
			wanted := api.ErrArg
			if slices.Contains(l, block) {
				wanted = api.OK
			}
			b, e := s.Read(block, 3, 2)
			if e != wanted || e != api.OK && b != nil || e == api.OK && !bytes.Equal(b, []byte{0, 0}) {
				t.Fatalf("Read of the block %d: %v, error %d", block, b, int(e))
			}
			want(t, "Read of nothing", errorOf(s.Read(block, 256, 0)), wanted)
			want(t, "Write of nothing", s.Write(block, 0, nil), wanted)
			want(t, "Write", s.Write(block, 3, []byte{1, 2}), wanted)
		}
		for _, block := range []int{math.MinInt, math.MinInt + 2, -1 << 32, 1 << 32, 1<<32 + 2, math.MaxInt - 1, math.MaxInt} {
			refusesRead(t, s, block, 0, 1, api.ErrArg)
			want(t, "Write", s.Write(block, 0, []byte{1}), api.ErrArg)
		}
		before.stays(t, d)
		holds(t, s, true, 0, l...)
	}
}

func errorOf(_ []byte, e api.Errno) api.Errno { return e }

// piece is an off, how many bytes come there, and whether a block has them.
type piece struct {
	off, many int
	fits      bool
}

func pieces() []piece {
	l := []piece{
		{-1, 0, false}, {-1, 1, false}, {-1, 256, false}, {-1, 257, false},
		{0, 0, true}, {0, 1, true}, {0, 255, true}, {0, 256, true}, {0, 257, false},
		{1, 0, true}, {1, 255, true}, {1, 256, false},
		{100, 156, true}, {100, 157, false}, {64, 64, true}, {-64, 128, false},
		{255, 0, true}, {255, 1, true}, {255, 2, false},
		{256, 0, true}, {256, 1, false}, {256, 256, false}, {257, 0, false}, {257, 1, false},
	}
	for _, off := range []int{math.MinInt, math.MinInt + 1, -1 << 32, -512, -256, 258, 512, 1 << 32, math.MaxInt - 256, math.MaxInt - 1, math.MaxInt} {
		for _, many := range []int{0, 1, 255, 256, 257, 512} {
			l = append(l, piece{off, many, false})
		}
	}
	return l
}

// P10.3: where bytes may stand in a block, while a transaction is open and while none is.
func TestPieces(t *testing.T) {
	roll := dice(4)
	d, s := fresh(t, small)
	commits(t, s, edit{2, 0, roll.bytes(256)}, edit{17, 0, roll.bytes(256)})
	was := state(t, s)
	before := faceOf(d)
	for _, p := range pieces() {
		for _, block := range []int{2, 11, 17} {
			b := roll.bytes(p.many)
			whole := was[256*slices.Index(smallBlocks, block):][:256]
			wanted := api.ErrArg
			if p.fits {
				wanted = api.OK
				reads(t, s, block, p.off, []byte(whole[p.off:p.off+p.many]))
			} else {
				refusesRead(t, s, block, p.off, p.many, api.ErrArg)
			}
			want(t, "Write while none is open", s.Write(block, p.off, b), api.ErrTxn)
			begins(t, s)
			want(t, "Write", s.Write(block, p.off, b), wanted)
			now := was
			if p.fits {
				now = made(small, was, edit{block, p.off, b})
				reads(t, s, block, p.off, b)
			} else {
				refusesRead(t, s, block, p.off, p.many, api.ErrArg)
			}
			if state(t, s) != now {
				t.Fatalf("a Write of %d bytes at %d of the block %d makes something else", p.many, p.off, block)
			}
			if p.fits && p.many > 0 {
				holds(t, s, true, 13, block)
			} else {
				holds(t, s, true, 13)
			}
			want(t, "Abort", s.Abort(), api.OK)
		}
	}
	for _, n := range []int{math.MinInt, math.MinInt + 1, -257, -256, -1, 257, 1 << 32, math.MaxInt - 1, math.MaxInt} {
		for _, off := range []int{math.MinInt, -1, 0, 1, 255, 256, 257, math.MaxInt - 1, math.MaxInt} {
			refusesRead(t, s, 2, off, n, api.ErrArg)
		}
	}
	before.stays(t, d)
	if state(t, s) != was {
		t.Fatal("what was aborted is read")
	}
}

// P10.3: what a transaction writes, one over the other, and what it has not written.
func TestWrites(t *testing.T) {
	roll := dice(11)
	d, s := fresh(t, small)
	now := state(t, s)
	for range 40 {
		before, was, held := faceOf(d), now, s.Held()
		begins(t, s)
		var blocks []int
		for range roll.from(0, 12) {
			block, off := smallBlocks[roll.from(0, 7)], roll.from(0, 256)
			x := edit{block, off, roll.bytes(roll.from(0, min(40, 256-off)))}
			want(t, "Write", s.Write(x.block, x.off, x.b), api.OK)
			now = made(small, now, x)
			if len(x.b) > 0 {
				blocks = append(blocks, block)
			}
			if state(t, s) != now {
				t.Fatal("another state than was written")
			}
		}
		slices.Sort(blocks)
		holds(t, s, true, held, slices.Compact(blocks)...)
		before.stays(t, d)
		switch roll.from(0, 2) {
		case 0:
			want(t, "Abort", s.Abort(), api.OK)
			holds(t, s, false, held)
			before.stays(t, d)
			now = was
		default:
			if e := s.Commit(); e == api.ErrLog {
				before.stays(t, d)
				now = was
			} else {
				want(t, "Commit", e, api.OK)
			}
		}
		if state(t, s) != now {
			t.Fatal("another state behind the transaction")
		}
	}
}

// P10.3 to P10.5: the calls while no transaction is open, and while one is.
func TestInAndOut(t *testing.T) {
	d, s := fresh(t, small)
	before := faceOf(d)
	for range 3 {
		holds(t, s, false, 0)
		want(t, "Commit", s.Commit(), api.ErrTxn)
		want(t, "Abort", s.Abort(), api.ErrTxn)
		for _, block := range []int{-1, 0, 2, 18} {
			want(t, "Write", s.Write(block, 0, []byte{1}), api.ErrTxn)
			want(t, "Write", s.Write(block, -1, nil), api.ErrTxn)
		}
		want(t, "Checkpoint", s.Checkpoint(), api.OK)

		want(t, "Begin", s.Begin(), api.OK)
		holds(t, s, true, 0)
		want(t, "Begin", s.Begin(), api.ErrBusy)
		want(t, "Checkpoint", s.Checkpoint(), api.ErrBusy)
		want(t, "Write", s.Write(2, 0, []byte{1}), api.OK)
		want(t, "Begin", s.Begin(), api.ErrBusy)
		want(t, "Checkpoint", s.Checkpoint(), api.ErrBusy)
		holds(t, s, true, 0, 2)
		want(t, "Abort", s.Abort(), api.OK)
		before.stays(t, d)
	}
	commits(t, s)
	want(t, "Commit", s.Commit(), api.ErrTxn)
	before.stays(t, d)
	commits(t, s, edit{2, 0, []byte{1}})
	want(t, "Commit", s.Commit(), api.ErrTxn)
	want(t, "Abort", s.Abort(), api.ErrTxn)
	want(t, "Write", s.Write(2, 0, []byte{1}), api.ErrTxn)
	holds(t, s, false, 2)
	begins(t, s)
	want(t, "Checkpoint while the log holds something", s.Checkpoint(), api.ErrBusy)
	want(t, "Abort", s.Abort(), api.OK)
}

// P10.5: Plan, Geometry and Disk.
func TestStandsOn(t *testing.T) {
	d, s := fresh(t, small)
	plan := api.Plan{Log: 3, Table: 11, Marks: 12, Dir: 13, Heap: 14, Blocks: 18}
	for range 2 {
		if s.Plan() != plan || s.Geometry() != small || s.Disk() != d {
			t.Fatalf("Plan %v, Geometry %v, Disk %p of %p", s.Plan(), s.Geometry(), s.Disk(), d)
		}
		commits(t, s, edit{2, 0, []byte{1}})
		want(t, "Checkpoint", s.Checkpoint(), api.OK)
		begins(t, s, edit{17, 0, []byte{1}})
		if s.Plan() != plan || s.Geometry() != small || s.Disk() != d {
			t.Fatalf("in a transaction: Plan %v, Geometry %v, Disk %p of %p", s.Plan(), s.Geometry(), s.Disk(), d)
		}
		want(t, "Abort", s.Abort(), api.OK)
	}
}
