package super_test

import (
	"bytes"
	"encoding/binary"
	"hash/crc32"
	"slices"
	"testing"

	"attic/api"
	"attic/super"
)

// numbers is a super's fields as its block has them, be they such that may be or not.
type numbers struct {
	epoch                     uint64
	blocks, log, dir, extents uint32
	head                      uint64
}

// plain are the numbers of a super that may be.
func plain() numbers { return numbers{2, 60, 8, 4, 8, 32} }

func numbersOf(s api.Super) numbers {
	return numbers{uint64(s.Epoch), uint32(s.G.Blocks), uint32(s.G.Log), uint32(s.G.Dir), uint32(s.G.Extents), uint64(s.Head)}
}

// block is a block of those numbers with its sum, written by the language's own library: the layout put another way.
func (n numbers) block() []byte {
	b := make([]byte, 256)
	copy(b, []byte{'a', 't', 't', 'i', 'c', ' ', '1', 10})
	binary.LittleEndian.PutUint64(b[8:], n.epoch)
	for i, v := range []uint32{n.blocks, n.log, n.dir, n.extents} {
		binary.LittleEndian.PutUint32(b[16+4*i:], v)
	}
	binary.LittleEndian.PutUint64(b[32:], n.head)
	resum(b)
	return b
}

// resum makes a block's sum right.
func resum(b []byte) {
	binary.LittleEndian.PutUint32(b[60:], crc32.Checksum(b[:60], crc32.MakeTable(crc32.Castagnoli)))
}

// corrupt holds that Parse takes no such bytes, nor Choose in either slot.
func corrupt(t *testing.T, what string, b []byte) {
	t.Helper()
	if s, e := super.Parse(b); s != (api.Super{}) || e != api.ErrCorrupt {
		t.Errorf("Parse of %s: %v, error %d", what, s, int(e))
	}
	if s, e := super.Choose(b, b); s != (api.Super{}) || e != api.ErrCorrupt {
		t.Errorf("Choose of %s: %v, error %d", what, s, int(e))
	}
}

// P5.2: a block that is written out by hand.
func TestBytesByHand(t *testing.T) {
	got := bytesOf(t, api.Super{Epoch: 0x0102030405060708, G: api.Geometry{Blocks: 2047, Log: 255, Dir: 63, Extents: 254}, Head: 0x0807060504030201})
	want := slices.Concat(
		[]byte("attic 1\n"),
		[]byte{8, 7, 6, 5, 4, 3, 2, 1},
		[]byte{255, 7, 0, 0},
		[]byte{255, 0, 0, 0},
		[]byte{63, 0, 0, 0},
		[]byte{254, 0, 0, 0},
		[]byte{1, 2, 3, 4, 5, 6, 7, 8},
		make([]byte, 20),
	)
	if len(want) != 60 || len(got) != 256 || !bytes.Equal(got[:60], want) {
		t.Fatalf("Bytes: %d of them, %v", len(got), got)
	}
	sum := crc32.Checksum(want, crc32.MakeTable(crc32.Castagnoli))
	if !bytes.Equal(got[60:64], []byte{byte(sum), byte(sum >> 8), byte(sum >> 16), byte(sum >> 24)}) {
		t.Errorf("the sum: %v, not of %x", got[60:64], sum)
	}
	if !bytes.Equal(got[64:], make([]byte, 192)) {
		t.Errorf("behind the sum: %v", got[64:])
	}
}

// P5.2: Bytes of several supers, the sum among them.
func TestBytes(t *testing.T) {
	for _, s := range several() {
		if got, want := bytesOf(t, s), numbersOf(s).block(); !bytes.Equal(got, want) {
			t.Errorf("Bytes(%v): %v, not %v", s, got, want)
		}
	}
}

// P5.2, R2: Bytes of supers that may not be.
func TestBytesOfWrong(t *testing.T) {
	for s, want := range wrong() {
		if b, e := super.Bytes(s); b != nil || e != want {
			t.Errorf("Bytes(%v): %v, error %d, not %d", s, b, int(e), int(want))
		}
	}
}

// P5.4: Parse of Bytes is the super.
func TestThereAndBack(t *testing.T) {
	for _, s := range several() {
		if got, e := super.Parse(bytesOf(t, s)); got != s || e != api.OK {
			t.Errorf("Parse of Bytes(%v): %v, error %d", s, got, int(e))
		}
		if got, e := super.Parse(numbersOf(s).block()); got != s || e != api.OK {
			t.Errorf("Parse of the block of %v: %v, error %d", s, got, int(e))
		}
	}
}

// P5.4: Bytes of what Parse takes are the bytes, of blocks whose sum is right and whose other bytes are by chance.
func TestTakenIsBytes(t *testing.T) {
	d := dice(7)
	taken := 0
	for range 20000 {
		b := plain().block()
		for range d.from(1, 3) {
			b[d.from(0, 47)] ^= 1 << d.from(0, 7)
		}
		resum(b)
		s, e := super.Parse(b)
		if e != api.OK {
			if s != (api.Super{}) || e != api.ErrCorrupt {
				t.Fatalf("Parse(%v): %v, error %d", b, s, int(e))
			}
			continue
		}
		taken++
		if got := bytesOf(t, s); !bytes.Equal(got, b) {
			t.Fatalf("Parse(%v): %v, whose Bytes are %v", b, s, got)
		}
	}
	if taken < 100 {
		t.Errorf("only %d blocks were taken", taken)
	}
}

// P5.2: not just a block's bytes.
func TestParseLengths(t *testing.T) {
	long := append(plain().block(), make([]byte, 300)...)
	for n := range len(long) {
		if n != 256 {
			corrupt(t, "a super's block, cut or with noughts behind it", long[:n])
		}
	}
	if s, e := super.Parse(long[:256]); s.Epoch != 2 || e != api.OK {
		t.Errorf("Parse of 256 bytes of more: %v, error %d", s, int(e))
	}
	corrupt(t, "255 bytes", long[:255])
	corrupt(t, "257 bytes", long[:257])
	corrupt(t, "the last 255 bytes", long[1:256])
	corrupt(t, "two blocks", slices.Concat(long[:256], long[:256]))
	corrupt(t, "nil", nil)
	corrupt(t, "none", []byte{})
	corrupt(t, "noughts", make([]byte, 256))
	corrupt(t, "all ones", bytes.Repeat([]byte{255}, 256))
	corrupt(t, "a long row", make([]byte, 1<<24))
}

// P5.2: each byte counts, those behind the sum too, and each of its bits.
func TestParseSeesEachByte(t *testing.T) {
	for _, s := range []api.Super{{Epoch: 2, G: example, Head: 32}, {Epoch: most, G: good[3], Head: most}, {Epoch: 1, G: good[1]}} {
		b := bytesOf(t, s)
		for i := range b {
			for change := 1; change < 256; change++ {
				b[i] ^= byte(change)
				corrupt(t, "a block with a byte changed", b)
				b[i] ^= byte(change)
			}
		}
	}
}

// P5.2: the sum is right, but bytes that hang on no field are others.
func TestParseMagicAndNoughts(t *testing.T) {
	for i := range 60 {
		if i >= 8 && i < 40 {
			continue
		}
		for change := 1; change < 256; change++ {
			b := plain().block()
			b[i] ^= byte(change)
			resum(b)
			corrupt(t, "a block with a right sum and another magic, or no noughts", b)
		}
	}
}

// P5.2: the sum is right, but the fields may not be. That is ErrCorrupt here, the geometry's error too.
func TestParseFields(t *testing.T) {
	change := func(f func(n *numbers)) {
		t.Helper()
		n := plain()
		f(&n)
		corrupt(t, "fields that may not be", n.block())
	}
	for _, v := range []uint64{0, most + 1, most + 2, 1 << 61, 1<<63 - 1, 1 << 63, 1<<63 + 2, 1<<64 - 2, 1<<64 - 1} {
		change(func(n *numbers) { n.epoch = v })
	}
	for _, v := range []uint64{most + 1, 1 << 61, 1<<63 - 1, 1 << 63, 1<<63 + 32, 1<<64 - 1} {
		change(func(n *numbers) { n.head = v })
	}
	for _, v := range []uint32{0, 48, 2049, 1<<31 - 1, 1 << 31, 1<<31 + 60, 1<<32 - 60, 1<<32 - 1} {
		change(func(n *numbers) { n.blocks = v })
	}
	for _, v := range []uint32{0, 7, 257, 1<<31 - 1, 1 << 31, 1<<31 + 8, 1<<32 - 8, 1<<32 - 1} {
		change(func(n *numbers) { n.blocks, n.log = 2048, v })
	}
	for _, v := range []uint32{0, 65, 1<<31 - 1, 1 << 31, 1<<31 + 4, 1<<32 - 4, 1<<32 - 1} {
		change(func(n *numbers) { n.blocks, n.dir = 2048, v })
	}
	for _, v := range []uint32{0, 257, 1<<31 - 1, 1 << 31, 1<<31 + 8, 1<<32 - 8, 1<<32 - 1} {
		change(func(n *numbers) { n.blocks, n.extents = 2048, v })
	}
	for s := range wrong() { // a few of them are, cut to their bytes, the numbers of one that may be
		if cut := numbersOf(s); !mayBe(cut) {
			corrupt(t, "fields that may not be", cut.block())
		}
	}
}

// mayBe is whether those numbers are a super's.
func mayBe(n numbers) bool {
	g := api.Geometry{Blocks: int(n.blocks), Log: int(n.log), Dir: int(n.dir), Extents: int(n.extents)}
	return n.epoch <= most && n.head <= most && super.Check(api.Super{Epoch: int64(n.epoch), G: g, Head: int64(n.head)}) == api.OK
}

// R1, R2: bytes by chance, of all lengths.
func TestParseAnything(t *testing.T) {
	d := dice(8)
	for n := range 600 {
		corrupt(t, "bytes by chance", d.bytes(n))
	}
	for range 200 {
		corrupt(t, "a block by chance", d.bytes(256))
	}
}

// R3: what is handed in is not written to, the room behind it neither, and what is answered is nobody's else.
func TestNothingShared(t *testing.T) {
	s := api.Super{Epoch: 2, G: example, Head: 32}
	room := append(bytesOf(t, s), bytes.Repeat([]byte{200}, 300)...)
	was := bytes.Clone(room)
	for _, n := range []int{0, 8, 60, 64, 255, 256, 257, 556} {
		super.Parse(room[:n])
		super.Choose(room[:n], room[:n])
		if !bytes.Equal(room, was) {
			t.Fatalf("%d bytes handed in: written to: %v", n, room)
		}
	}
	a, b := bytesOf(t, s), bytesOf(t, s)
	clear(a)
	a = append(a, 1, 2, 3)
	if !bytes.Equal(b, was[:256]) || !bytes.Equal(bytesOf(t, s), was[:256]) || len(a) != 259 {
		t.Errorf("Bytes goes with another answer: %v", b)
	}
	got, _ := super.Parse(b)
	clear(b)
	if got != s {
		t.Errorf("Parse's answer goes with what was handed in: %v", got)
	}
}
