package ring_test

import (
	"bytes"
	"math"
	"slices"
	"testing"

	"attic/api"
	"attic/disk"
	"attic/record"
	"attic/ring"
)

const most = 1 << 60 // MaxHead

// dice is a row of numbers that is the same in each run.
type dice uint64

func (d *dice) next() uint64 {
	*d += 0x9e3779b97f4a7c15
	z := uint64(*d)
	z = (z ^ z>>30) * 0xbf58476d1ce4e5b9
	z = (z ^ z>>27) * 0x94d049bb133111eb
	return z ^ z>>31
}

func (d *dice) from(low, high int) int { return low + int(d.next()%uint64(high-low+1)) }

func (d *dice) bytes(n int) []byte {
	b := make([]byte, n)
	for i := range b {
		b[i] = byte(d.next())
	}
	return b
}

func (d *dice) record() api.Record {
	if d.from(0, 3) == 0 {
		return commit(d.from(0, 1<<16))
	}
	n := d.from(1, 44)
	return patch(d.from(0, 2047), d.from(0, 256-n), d.bytes(n)...)
}

func (d *dice) records(n int) []api.Record {
	var l []api.Record
	for range n {
		l = append(l, d.record())
	}
	return l
}

func patch(block, off int, data ...byte) api.Record {
	return api.Record{Kind: api.RcPatch, Block: block, Off: off, Data: data}
}

func commit(many int) api.Record { return api.Record{Kind: api.RcCommit, Many: many} }

func equal(a, b api.Record) bool {
	return a.Kind == b.Kind && a.Block == b.Block && a.Off == b.Off && a.Many == b.Many && string(a.Data) == string(b.Data)
}

func want(t *testing.T, what string, got, want api.Errno) {
	t.Helper()
	if got != want {
		t.Fatalf("%s: error %d, not %d", what, int(got), int(want))
	}
}

func fresh(t *testing.T, blocks int) *disk.Disk {
	t.Helper()
	d, e := disk.New(blocks)
	want(t, "New", e, api.OK)
	return d
}

// noise is a disk whose sectors are no records'.
func noise(t *testing.T, blocks int) *disk.Disk {
	t.Helper()
	r := dice(blocks)
	d, e := disk.Of(r.bytes(256 * blocks))
	want(t, "Of", e, api.OK)
	return d
}

func open(t *testing.T, d *disk.Disk, base, blocks int, head int64) (*ring.Ring, []api.Record) {
	t.Helper()
	r, l, e := ring.Open(d, base, blocks, head)
	if e != api.OK || r == nil {
		t.Fatalf("Open(%d, %d, %d): %v, error %d", base, blocks, head, r, int(e))
	}
	return r, l
}

// refused holds that Open answers that error, nothing beside it, and does nothing.
func refused(t *testing.T, d *disk.Disk, base, blocks int, head int64, want api.Errno) {
	t.Helper()
	before := faceOf(d)
	if r, l, e := ring.Open(d, base, blocks, head); r != nil || l != nil || e != want {
		t.Fatalf("Open(%d, %d, %d): %v, %v, error %d, not %d", base, blocks, head, r, l, int(e), int(want))
	}
	before.stays(t, d)
}

// wantList holds two lists of records against each other.
func wantList(t *testing.T, what string, got, want []api.Record) {
	t.Helper()
	if len(got) != len(want) {
		t.Fatalf("%s tells %d records, not %d", what, len(got), len(want))
	}
	for i := range got {
		if !equal(got[i], want[i]) {
			t.Fatalf("%s tells %v as the %d-th one, not %v", what, got[i], i, want[i])
		}
	}
}

// holds looks at all faces of a ring that holds those records from head on.
func holds(t *testing.T, r *ring.Ring, blocks int, head int64, l ...api.Record) {
	t.Helper()
	if r.Head() != head || r.Tail() != head+int64(len(l)) || r.Room() != 4*blocks-len(l) {
		t.Fatalf("Head %d, Tail %d, Room %d of a ring of %d blocks with %d records from %d on", r.Head(), r.Tail(), r.Room(), blocks, len(l), head)
	}
	var got []api.Record
	for n, x := range r.All() {
		if n != head+int64(len(got)) {
			t.Fatalf("All tells the number %d as the %d-th one from %d on", n, len(got), head)
		}
		got = append(got, x)
	}
	wantList(t, "All", got, l)
}

// opens holds that Open tells those records, and a ring that holds them, and does nothing.
func opens(t *testing.T, d *disk.Disk, base, blocks int, head int64, l ...api.Record) {
	t.Helper()
	before := faceOf(d)
	r, got := open(t, d, base, blocks, head)
	wantList(t, "Open", got, l)
	holds(t, r, blocks, head, l...)
	before.stays(t, d)
}

// sectorOf is the bytes with which a record stands at a number.
func sectorOf(t *testing.T, n int64, x api.Record) []byte {
	t.Helper()
	b, e := record.Bytes(n, x)
	want(t, "Bytes", e, api.OK)
	return b
}

// stand writes a sector of the disk, and leaves the other ones of its block.
func stand(t *testing.T, d *disk.Disk, block, sector int, bytes []byte) {
	t.Helper()
	b, e := d.Read(block)
	want(t, "Read", e, api.OK)
	copy(b[64*sector:64*sector+64], bytes)
	want(t, "Write", d.Write(block, b), api.OK)
	want(t, "Flush", d.Flush(), api.OK)
}

// placed writes a record as that number of a ring, where the chapter says that it stands.
func placed(t *testing.T, d *disk.Disk, base, blocks int, n int64, x api.Record) {
	t.Helper()
	at := int(n % int64(4*blocks))
	stand(t, d, base+at/4, at%4, sectorOf(t, n, x))
}

type waiting struct {
	block int
	bytes string
}

// face is all that a disk shows.
type face struct {
	image   string
	on      bool
	ops     int64
	pending []waiting
}

func faceOf(d *disk.Disk) face {
	f := face{image: string(d.Image()), on: d.On(), ops: d.Ops()}
	for i, b := range d.Pending() {
		f.pending = append(f.pending, waiting{i, string(b)})
	}
	return f
}

func (f face) stays(t *testing.T, d *disk.Disk) {
	t.Helper()
	g := faceOf(d)
	if g.image != f.image || g.on != f.on || g.ops != f.ops || !slices.Equal(g.pending, f.pending) {
		t.Fatalf("the disk has changed: Ops %d and %d, %d and %d pending, On %v and %v", f.ops, g.ops, len(f.pending), len(g.pending), f.on, g.on)
	}
}

// The chapter's example.
func TestExample(t *testing.T) {
	d := fresh(t, 4)
	roll := dice(7)
	l := roll.records(8)
	r, _ := open(t, d, 1, 2, 8)
	if r.Room() != 8 || ring.Lap(0, 2) != 8 {
		t.Fatalf("Room %d, Lap %d", r.Room(), ring.Lap(0, 2))
	}
	want(t, "Append", r.Append(l...), api.OK)
	want(t, "Sync", r.Sync(), api.OK)
	image := d.Image()
	for i, x := range l {
		at := 256 + 64*i
		if !bytes.Equal(image[at:at+64], sectorOf(t, int64(8+i), x)) {
			t.Errorf("the record %d does not stand in the sector %d", 8+i, i)
		}
	}
	if !bytes.Equal(image[:256], make([]byte, 256)) || !bytes.Equal(image[768:], make([]byte, 256)) {
		t.Error("blocks beside the ring have changed")
	}
	opens(t, d, 1, 2, 8, l...)
}

// P7.1: blocks, bases and heads that may be, and those that may not.
func TestOpenEdges(t *testing.T) {
	d := fresh(t, 260)
	for _, blocks := range []int{1, 2, 3, 255, 256} {
		for _, base := range []int{0, 1, 260 - blocks - 1, 260 - blocks} {
			for _, head := range []int64{0, 1, 1023, 1024, most - 1, most} {
				opens(t, d, base, blocks, head)
			}
			for _, head := range []int64{math.MinInt64, math.MinInt64 + 1, -1024, -1, most + 1, most + 1024, 1 << 61, math.MaxInt64 - 1, math.MaxInt64} {
				refused(t, d, base, blocks, head, api.ErrArg)
			}
		}
		for _, base := range []int{math.MinInt, math.MinInt + 256, -256, -blocks, -1, 260 - blocks + 1, 259 + 1, 261, math.MaxInt - 256, math.MaxInt - blocks, math.MaxInt - blocks + 1, math.MaxInt} {
			refused(t, d, base, blocks, 8, api.ErrArg)
		}
	}
	for _, blocks := range []int{math.MinInt, math.MinInt + 1, -256, -1, 0, 257, 258, 260, 1 << 32, 1<<32 + 1, math.MaxInt - 1, math.MaxInt} {
		for _, base := range []int{0, 1, 2, -1, math.MaxInt, math.MinInt} {
			refused(t, d, base, blocks, 8, api.ErrArg)
		}
	}
}

// P7.1: a ring that is the whole of a small disk, and one that ends at its last block.
func TestOpenFits(t *testing.T) {
	for size := 1; size <= 5; size++ {
		d := fresh(t, size)
		for base := -1; base <= size+1; base++ {
			for blocks := 0; blocks <= size+2; blocks++ {
				if base >= 0 && blocks >= 1 && base+blocks <= size {
					opens(t, d, base, blocks, 3)
				} else {
					refused(t, d, base, blocks, 3, api.ErrArg)
				}
			}
		}
	}
}

// P7.1, R2: the order of Open's errors.
func TestOpenOrder(t *testing.T) {
	wrong := [][3]int{{0, 0, 0}, {0, 257, 0}, {-1, 1, 0}, {3, 1, 0}, {2, 2, 0}, {0, 1, -1}, {0, 1, most + 1}, {-1, 0, -1}, {math.MaxInt, math.MaxInt, math.MaxInt}}
	for _, d := range []*disk.Disk{nil, {}} {
		refused(t, d, 0, 1, 0, api.ErrMade)
		for _, w := range wrong {
			refused(t, d, w[0], w[1], int64(w[2]), api.ErrMade)
		}
	}
	d := fresh(t, 3)
	want(t, "Crash", d.Crash(), api.OK)
	refused(t, d, 0, 1, 0, api.ErrPower)
	refused(t, d, 0, 3, most, api.ErrPower)
	for _, w := range wrong {
		refused(t, d, w[0], w[1], int64(w[2]), api.ErrArg)
	}
	want(t, "Restart", d.Restart(), api.OK)
	for _, w := range wrong {
		refused(t, d, w[0], w[1], int64(w[2]), api.ErrArg)
	}
	opens(t, d, 0, 1, 0)
}

// P7.1: as many records as stand there, from each head on, and behind them what is no record.
func TestOpenTells(t *testing.T) {
	roll := dice(71)
	for _, blocks := range []int{1, 2, 3, 5} {
		lap := 4 * blocks
		for _, head := range []int64{0, 1, 2, 3, 4, 7, 1000, 1<<32 + 3, most - 2, most} {
			for many := 0; many <= lap; many++ {
				d := noise(t, blocks+2)
				l := roll.records(many)
				for i, x := range l {
					placed(t, d, 1, blocks, head+int64(i), x)
				}
				opens(t, d, 1, blocks, head, l...)
				for i := range l {
					if n := head + int64(i); n <= most {
						opens(t, d, 1, blocks, n, l[i:]...)
					}
				}
			}
		}
	}
}

// P7.1: a ring that is full, of the greatest size, too: a lap is told, and not more.
func TestOpenFull(t *testing.T) {
	roll := dice(72)
	for _, blocks := range []int{1, 2, 256} {
		for _, head := range []int64{0, 5, 1022, most - 1} {
			d := fresh(t, blocks+1)
			image := make([]byte, 256*(blocks+1))
			l := roll.records(4 * blocks)
			for i, x := range l {
				n := head + int64(i)
				copy(image[256+64*(n%int64(4*blocks)):], sectorOf(t, n, x))
			}
			for i := range blocks + 1 {
				want(t, "Write", d.Write(i, image[256*i:256*i+256]), api.OK)
			}
			opens(t, d, 1, blocks, head, l...)
		}
	}
}

// P7.1: a sector in the midst that is not the record of its number ends what is told.
func TestOpenMidst(t *testing.T) {
	const blocks, head = 3, 26
	roll := dice(73)
	for stop := range int64(12) {
		n, x := head+stop, roll.record()
		torn := sectorOf(t, n, x)
		torn[63] ^= 1
		early := sectorOf(t, n, x)
		early[0] ^= 1
		for _, c := range []struct {
			what   string
			sector []byte
		}{
			{"the number behind", sectorOf(t, n+1, x)},
			{"the number ahead", sectorOf(t, n-1, x)},
			{"the lap behind", sectorOf(t, n+12, x)},
			{"the lap ahead", sectorOf(t, n-12, x)},
			{"two laps ahead", sectorOf(t, n-24, x)},
			{"the number 0", sectorOf(t, 0, x)},
			{"the sector's number in the ring", sectorOf(t, n%12, x)},
			{"noughts", make([]byte, 64)},
			{"a last byte that is another", torn},
			{"a first byte that is another", early},
			{"any bytes", roll.bytes(64)},
		} {
			d := fresh(t, 4)
			l := roll.records(12)
			for i, x := range l {
				placed(t, d, 1, blocks, head+int64(i), x)
			}
			opens(t, d, 1, blocks, head, l...)
			stand(t, d, 1+int(n%12)/4, int(n%12)%4, c.sector)
			before := faceOf(d)
			r, got := open(t, d, 1, blocks, head)
			if len(got) != int(stop) || r.Tail() != n {
				t.Fatalf("with %s in the %d-th sector Open tells %d records", c.what, stop, len(got))
			}
			holds(t, r, blocks, head, l[:stop]...)
			before.stays(t, d)
			if stop > 0 && stop < 11 {
				opens(t, d, 1, blocks, n+1, l[stop+1:]...)
			}
		}
	}
}

// P7.1: what is pending is read as well as what the medium has.
func TestOpenPending(t *testing.T) {
	d := fresh(t, 2)
	a, b, c := patch(1, 2, 3), commit(4), patch(5, 6, 7)
	r, _ := open(t, d, 0, 2, 8)
	want(t, "Append", r.Append(a, b), api.OK)
	opens(t, d, 0, 2, 8, a, b)
	want(t, "Sync", r.Sync(), api.OK)
	want(t, "Append", r.Append(c), api.OK)
	opens(t, d, 0, 2, 8, a, b, c)
	if !bytes.Equal(d.Image()[128:192], make([]byte, 64)) {
		t.Fatal("Append has flushed")
	}
}

// P7.3: Lap.
func TestLap(t *testing.T) {
	for _, blocks := range []int{1, 2, 8, 255, 256} {
		for _, tail := range []int64{0, 1, 7, 1024, 1<<32 + 1, most - 1, most} {
			if got := ring.Lap(tail, blocks); got != tail+4*int64(blocks) {
				t.Errorf("Lap(%d, %d): %d", tail, blocks, got)
			}
		}
		for _, tail := range []int64{math.MinInt64, -1024, -1, most + 1, most + 1024, 1 << 61, math.MaxInt64} {
			if got := ring.Lap(tail, blocks); got != 0 {
				t.Errorf("Lap(%d, %d): %d", tail, blocks, got)
			}
		}
	}
	for _, blocks := range []int{math.MinInt, -1, 0, 257, 258, 1 << 32, 1<<32 + 1, 1 << 62, math.MaxInt} {
		for _, tail := range []int64{math.MinInt64, -1, 0, 8, most, most + 1, math.MaxInt64} {
			if got := ring.Lap(tail, blocks); got != 0 {
				t.Errorf("Lap(%d, %d): %d", tail, blocks, got)
			}
		}
	}
}

// P7.2, P7.3: Trim, and Room behind it.
func TestTrim(t *testing.T) {
	roll := dice(74)
	l := roll.records(8)
	d := fresh(t, 3)
	r, _ := open(t, d, 1, 2, 10)
	want(t, "Append", r.Append(l[:6]...), api.OK)
	before := faceOf(d)
	for _, head := range []int64{math.MinInt64, -1, 0, 2, 9, 17, 18, most, most + 1, math.MaxInt64} {
		want(t, "Trim beside the ring", r.Trim(head), api.ErrArg)
		holds(t, r, 2, 10, l[:6]...)
	}
	want(t, "Trim at Head", r.Trim(10), api.OK)
	holds(t, r, 2, 10, l[:6]...)
	want(t, "Trim in the midst", r.Trim(12), api.OK)
	holds(t, r, 2, 12, l[2:6]...)
	for _, head := range []int64{10, 11, 17} {
		want(t, "Trim below the new Head", r.Trim(head), api.ErrArg)
		holds(t, r, 2, 12, l[2:6]...)
	}
	before.stays(t, d)

	want(t, "Append of more than Room", r.Append(roll.records(5)...), api.ErrRing)
	before.stays(t, d)
	want(t, "Append", r.Append(l[6:]...), api.OK)
	holds(t, r, 2, 12, l[2:]...)
	opens(t, d, 1, 2, 12, l[2:]...)
	want(t, "Trim at Tail less 1", r.Trim(17), api.OK)
	holds(t, r, 2, 17, l[7])
	want(t, "Trim at Tail", r.Trim(18), api.OK)
	holds(t, r, 2, 18)
	opens(t, d, 1, 2, 18)
	want(t, "Trim of nothing", r.Trim(18), api.OK)
	want(t, "Trim of nothing, ahead", r.Trim(17), api.ErrArg)
	want(t, "Trim of nothing, behind", r.Trim(19), api.ErrArg)
	full := roll.records(8)
	want(t, "Append of a lap", r.Append(full...), api.OK)
	holds(t, r, 2, 18, full...)
	want(t, "Append", r.Append(commit(1)), api.ErrRing)
}

// P7.2: Trim asks for no power, and says ErrArg without it, too; so do the calls that have no error.
func TestTrimWithoutPower(t *testing.T) {
	d := fresh(t, 2)
	l := []api.Record{commit(1), patch(2, 3, 4), commit(5)}
	r, _ := open(t, d, 0, 2, 8)
	want(t, "Append", r.Append(l...), api.OK)
	want(t, "Crash", d.Crash(), api.OK)
	before := faceOf(d)
	holds(t, r, 2, 8, l...)
	want(t, "Trim", r.Trim(12), api.ErrArg)
	want(t, "Trim", r.Trim(7), api.ErrArg)
	want(t, "Trim", r.Trim(9), api.OK)
	holds(t, r, 2, 9, l[1:]...)
	before.stays(t, d)
}
