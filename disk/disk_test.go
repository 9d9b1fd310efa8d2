package disk_test

import (
	"bytes"
	"math"
	"slices"
	"testing"

	"attic/api"
	"attic/disk"
)

// dice is a row of numbers that is the same in each run.
type dice uint64

func (d *dice) next() uint64 {
	*d += 0x9e3779b97f4a7c15
	z := uint64(*d)
	z = (z ^ z>>30) * 0xbf58476d1ce4e5b9
	z = (z ^ z>>27) * 0x94d049bb133111eb
	return z ^ z>>31
}

func (d *dice) below(n int) int { return int(d.next() % uint64(n)) }

func (d *dice) bytes(n int) []byte {
	b := make([]byte, n)
	for i := range b {
		b[i] = byte(d.next())
	}
	return b
}

// full is a block whose bytes tell their sector, too: c in its first one, then c + 1, c + 2, c + 3.
func full(c byte) []byte {
	var out []byte
	for k := range byte(api.Sectors) {
		out = append(out, bytes.Repeat([]byte{c + k}, api.SectorBytes)...)
	}
	return out
}

// imageOf is blocks that differ in each sector.
func imageOf(blocks int) []byte {
	d := dice(blocks)
	return d.bytes(blocks * api.BlockBytes)
}

func fresh(t *testing.T, blocks int) *disk.Disk {
	t.Helper()
	d, e := disk.New(blocks)
	if e != api.OK || d == nil {
		t.Fatalf("New(%d): %v, %d", blocks, d, e)
	}
	return d
}

func with(t *testing.T, image []byte) *disk.Disk {
	t.Helper()
	d, e := disk.Of(image)
	if e != api.OK || d == nil {
		t.Fatalf("Of %d bytes: %v, %d", len(image), d, e)
	}
	return d
}

func want(t *testing.T, what string, got, want api.Errno) {
	t.Helper()
	if got != want {
		t.Fatalf("%s: error %d, not %d", what, got, want)
	}
}

// apart is where two rows of bytes are no longer the same.
func apart(a, b string) int {
	for i := range min(len(a), len(b)) {
		if a[i] != b[i] {
			return i
		}
	}
	return min(len(a), len(b))
}

func wantBlock(t *testing.T, d *disk.Disk, i int, b []byte) {
	t.Helper()
	got, e := d.Read(i)
	if e != api.OK || !bytes.Equal(got, b) {
		t.Fatalf("Read(%d): %d bytes, error %d, another byte at %d", i, len(got), e, apart(string(got), string(b)))
	}
}

func wantImage(t *testing.T, d *disk.Disk, image []byte) {
	t.Helper()
	if got := d.Image(); !bytes.Equal(got, image) {
		t.Fatalf("Image: %d bytes, not %d, another byte at %d", len(got), len(image), apart(string(got), string(image)))
	}
}

func wantOps(t *testing.T, d *disk.Disk, n int64) {
	t.Helper()
	if d.Ops() != n {
		t.Fatalf("Ops: %d, not %d", d.Ops(), n)
	}
}

// waiting is a write that is pending.
type waiting struct {
	block int
	bytes string
}

func pendingOf(d *disk.Disk) []waiting {
	var out []waiting
	for i, b := range d.Pending() {
		out = append(out, waiting{i, string(b)})
	}
	return out
}

func wantPending(t *testing.T, d *disk.Disk, want ...waiting) {
	t.Helper()
	if got := pendingOf(d); !slices.Equal(got, want) {
		t.Fatalf("Pending: %d writes, not the %d that came", len(got), len(want))
	}
}

// face is all that a disk tells without being changed by it.
type face struct {
	size    int
	image   string
	on      bool
	ops     int64
	pending []waiting
	reads   []string
	errors  []api.Errno
}

func faceOf(d *disk.Disk) face {
	f := face{size: d.Len(), image: string(d.Image()), on: d.On(), ops: d.Ops(), pending: pendingOf(d)}
	for i := range f.size {
		b, e := d.Read(i)
		f.reads = append(f.reads, string(b))
		f.errors = append(f.errors, e)
	}
	return f
}

func (f face) equal(g face) bool {
	return f.size == g.size && f.image == g.image && f.on == g.on && f.ops == g.ops &&
		slices.Equal(f.pending, g.pending) && slices.Equal(f.reads, g.reads) && slices.Equal(f.errors, g.errors)
}

// P3.1: New, at its edges.
func TestNew(t *testing.T) {
	for _, n := range []int{1, 2, 7, api.MaxBlocks - 1, api.MaxBlocks} {
		d := fresh(t, n)
		if d.Len() != n || !d.On() {
			t.Errorf("New(%d): Len %d, On %v", n, d.Len(), d.On())
		}
		wantImage(t, d, make([]byte, n*api.BlockBytes))
		wantOps(t, d, 0)
		wantPending(t, d)
		wantBlock(t, d, n-1, make([]byte, api.BlockBytes))
		want(t, "Restart of a new one", d.Restart(), api.ErrBusy)
	}
	for _, n := range []int{0, -1, -api.MaxBlocks, api.MaxBlocks + 1, math.MinInt, math.MaxInt, math.MinInt / 256, math.MaxInt / 256} {
		if d, e := disk.New(n); d != nil || e != api.ErrArg {
			t.Errorf("New(%d): %v, %d", n, d, e)
		}
	}
}

// P3.1: Of, at its edges.
func TestOf(t *testing.T) {
	for _, n := range []int{1, 2, 7, api.MaxBlocks - 1, api.MaxBlocks} {
		image := imageOf(n)
		d := with(t, image)
		if d.Len() != n || !d.On() {
			t.Errorf("Of %d blocks: Len %d, On %v", n, d.Len(), d.On())
		}
		wantImage(t, d, image)
		wantOps(t, d, 0)
		wantPending(t, d)
		for _, i := range []int{0, n / 2, n - 1} {
			wantBlock(t, d, i, image[i*256:i*256+256])
		}
		want(t, "Restart of a new one", d.Restart(), api.ErrBusy)
	}
	wrong := []int{0, 1, 64, 255, 257, 511, 513, 2048*256 - 1, 2048*256 + 1, 2049 * 256, 4096 * 256}
	for _, n := range wrong {
		if d, e := disk.Of(make([]byte, n)); d != nil || e != api.ErrArg {
			t.Errorf("Of %d bytes: %v, %d", n, d, e)
		}
	}
	if d, e := disk.Of(nil); d != nil || e != api.ErrArg {
		t.Errorf("Of(nil): %v, %d", d, e)
	}
}

// The errors and limits that the chapter lists.
func TestNumbers(t *testing.T) {
	if api.ErrPlace != 30 || api.ErrBlock != 31 || api.ErrArg != 1 || api.ErrMade != 2 || api.ErrPower != 5 || api.ErrBusy != 7 {
		t.Error("an error has another number")
	}
	if api.SectorBytes != 64 || api.Sectors != 4 || api.BlockBytes != 256 || api.MaxBlocks != 2048 {
		t.Error("a limit is another one")
	}
}

// P3.1, P3.2: a write is pending, in the order in which it came, and reaches the medium by a Flush.
func TestWriteAndFlush(t *testing.T) {
	image := imageOf(3)
	d := with(t, image)
	a, b, c := full(1), full(11), full(21)
	want(t, "Write", d.Write(1, a), api.OK)
	want(t, "Write", d.Write(2, b), api.OK)
	want(t, "Write", d.Write(1, c), api.OK)
	wantPending(t, d, waiting{1, string(a)}, waiting{2, string(b)}, waiting{1, string(c)})
	wantBlock(t, d, 0, image[:256])
	wantBlock(t, d, 1, c)
	wantBlock(t, d, 2, b)
	wantImage(t, d, image)
	wantOps(t, d, 3)

	want(t, "Flush", d.Flush(), api.OK)
	wantPending(t, d)
	wantImage(t, d, slices.Concat(image[:256], c, b))
	wantBlock(t, d, 0, image[:256])
	wantBlock(t, d, 1, c)
	wantBlock(t, d, 2, b)
	wantOps(t, d, 4)

	want(t, "a Flush of nothing", d.Flush(), api.OK)
	wantImage(t, d, slices.Concat(image[:256], c, b))
	wantOps(t, d, 5)
}

// P3.2: the same bytes written once more are one more write, and a write of what the medium has is one, too.
func TestEachWriteIsPending(t *testing.T) {
	image := imageOf(1)
	d := with(t, image)
	for range 3 {
		want(t, "Write", d.Write(0, image), api.OK)
	}
	w := waiting{0, string(image)}
	wantPending(t, d, w, w, w)
	wantOps(t, d, 3)
}

// P3.2: blocks that there are not, in Read and Write, and what comes first of several errors.
func TestPlaces(t *testing.T) {
	for _, n := range []int{1, 4, api.MaxBlocks} {
		d := with(t, imageOf(n))
		want(t, "Write", d.Write(n-1, full(3)), api.OK)
		want(t, "Arm", d.Arm(2, 15, 15), api.OK)
		before := faceOf(d)
		for _, i := range []int{-1, -n, n, n + 1, api.MaxBlocks, math.MinInt, math.MaxInt, math.MaxInt / 256, math.MinInt / 256, 1 << 56, 1 << 32} {
			if b, e := d.Read(i); b != nil || e != api.ErrPlace {
				t.Fatalf("Read(%d) of %d: %v, %d", i, n, b, e)
			}
			want(t, "Write behind the end", d.Write(i, full(9)), api.ErrPlace)
			want(t, "Write of no bytes behind the end", d.Write(i, nil), api.ErrPlace)
		}
		if !faceOf(d).equal(before) {
			t.Fatal("a call with an error has changed the disk")
		}
		want(t, "the first operation", d.Flush(), api.OK)
		want(t, "the second operation", d.Flush(), api.ErrPower)
	}
}

// P3.2: bytes that are not just a block.
func TestBlocks(t *testing.T) {
	d := with(t, imageOf(2))
	want(t, "Write", d.Write(1, full(3)), api.OK)
	want(t, "Arm", d.Arm(1, 15, 15), api.OK)
	before := faceOf(d)
	for _, n := range []int{0, 1, 64, 255, 257, 512, 1 << 16} {
		want(t, "Write", d.Write(1, make([]byte, n)), api.ErrBlock)
	}
	want(t, "Write", d.Write(0, nil), api.ErrBlock)
	if !faceOf(d).equal(before) {
		t.Fatal("a call with an error has changed the disk")
	}
	want(t, "the armed operation", d.Flush(), api.ErrPower)
}

// P3.6: it reads what it wrote, and a Flush changes no answer of Read.
func TestReadsWhatItWrote(t *testing.T) {
	r := dice(36)
	const blocks = 5
	image := imageOf(blocks)
	d := with(t, image)
	var last [blocks][]byte
	for i := range last {
		last[i] = image[i*256 : i*256+256]
	}
	for n := range 400 {
		if r.below(5) == 0 {
			want(t, "Flush", d.Flush(), api.OK)
		} else {
			i := r.below(blocks)
			last[i] = r.bytes(256)
			want(t, "Write", d.Write(i, last[i]), api.OK)
		}
		for i, b := range last {
			wantBlock(t, d, i, b)
		}
		wantOps(t, d, int64(n+1))
	}
}

// THE BOUND: many writes that are pending, and many blocks.
func TestMany(t *testing.T) {
	const writes = 200000
	d := fresh(t, api.MaxBlocks)
	for n := range writes {
		want(t, "Write", d.Write(n%api.MaxBlocks, full(byte(n))), api.OK)
	}
	many := 0
	for i, b := range d.Pending() {
		if i != many%api.MaxBlocks || b[0] != byte(many) || b[255] != byte(many)+3 {
			t.Fatalf("the write %d is of %d, and has %d", many, i, b[0])
		}
		many++
	}
	if many != writes {
		t.Fatalf("%d are pending", many)
	}
	c := d.Clone()
	want(t, "Flush", d.Flush(), api.OK)
	want(t, "Crash", c.Crash(bytes.Repeat([]byte{15}, writes)...), api.OK)
	wantImage(t, c, d.Image())
	wantOps(t, d, writes+1)
	wantOps(t, c, writes)
}
