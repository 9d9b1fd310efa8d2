package record_test

import (
	"bytes"
	"encoding/binary"
	"hash/crc32"
	"math"
	"slices"
	"testing"

	"attic/api"
	"attic/record"
)

const most = 1 << 61 // the greatest place in the log

// places may be, noPlaces may not.
var (
	places   = []int64{0, 1, 2, 5, 255, 256, 1<<32 - 1, 1 << 32, 1<<40 + 1, 0x0102030405060708, 1 << 60, most - 1, most}
	noPlaces = []int64{math.MinInt64, math.MinInt64 + 1, math.MinInt64 + 5, -most, -256, -2, -1, most + 1, most + 5, 1 << 62, math.MaxInt64 - 1, math.MaxInt64}
)

// numbers is a sector's fields, be they such that may be or not.
type numbers struct {
	kind, size byte
	lsn        uint64
	number     uint32
	off, zero  byte
	data       []byte
}

// plain are the numbers of a patch at 5 that may be.
func plain() numbers { return numbers{1, 3, 5, 300, 7, 0, []byte("abc")} }

func numbersOf(lsn int64, r api.Record) numbers {
	return numbers{byte(r.Kind), byte(len(r.Data)), uint64(lsn), uint32(r.Block + r.Many), byte(r.Off), 0, r.Data}
}

// sector is a sector of those numbers with its sum, written by the language's own library: the layout put another way.
func (n numbers) sector() []byte {
	b := []byte{n.kind, n.size}
	b = binary.LittleEndian.AppendUint64(b, n.lsn)
	b = binary.LittleEndian.AppendUint32(b, n.number)
	b = append(b, n.off, n.zero)
	b = append(b, n.data...)
	b = append(b, make([]byte, 60-len(b))...)
	return resummed(b)
}

// resummed is the first 60 bytes of b and their sum.
func resummed(b []byte) []byte {
	sum := crc32.Checksum(b[:60], crc32.MakeTable(crc32.Castagnoli))
	return binary.LittleEndian.AppendUint32(bytes.Clone(b[:60]), sum)
}

func bytesOf(t *testing.T, lsn int64, r api.Record) []byte {
	t.Helper()
	b, e := record.Bytes(lsn, r)
	if e != api.OK {
		t.Fatalf("Bytes of %v at %d: error %d", brief(r), lsn, int(e))
	}
	return b
}

// taken holds that b is the sector of that record at that place.
func taken(t *testing.T, b []byte, lsn int64, want api.Record) {
	t.Helper()
	if r, e := record.Take(b, lsn); !equal(r, want) || e != api.OK {
		t.Fatalf("Take of %v at %d: %v, error %d, not %v", b, lsn, brief(r), int(e), brief(want))
	}
	if at, e := record.Lsn(b); at != lsn || e != api.OK {
		t.Fatalf("Lsn of %v: %d, error %d, not %d", b, at, int(e), lsn)
	}
}

// notAt holds that Take does not take b at that place.
func notAt(t *testing.T, what string, b []byte, lsn int64, want api.Errno) {
	t.Helper()
	if r, e := record.Take(b, lsn); !isZero(r) || e != want {
		t.Fatalf("Take of %s at %d, %v: %v, error %d", what, lsn, b[:min(len(b), 70)], brief(r), int(e))
	}
}

// stale holds that b is no record's sector: not at the place that its bytes tell, and not at others.
func stale(t *testing.T, what string, b []byte) {
	t.Helper()
	if at, e := record.Lsn(b); at != 0 || e != api.ErrStale {
		t.Fatalf("Lsn of %s, %v: %d, error %d", what, b[:min(len(b), 70)], at, int(e))
	}
	told := int64(5)
	if len(b) >= 10 {
		told = int64(binary.LittleEndian.Uint64(b[2:]))
	}
	for _, lsn := range []int64{told, 0, 5, 6, most} {
		if lsn >= 0 && lsn <= most {
			notAt(t, what, b, lsn, api.ErrStale)
		}
	}
}

// The chapter's example.
func TestExample(t *testing.T) {
	head := []byte{2, 0, 5, 0, 0, 0, 0, 0, 0, 0, 2, 0, 0, 0}
	want := resummed(append(head, make([]byte, 46)...))
	if got := bytesOf(t, 5, commit(2)); !bytes.Equal(got, want) {
		t.Errorf("Bytes of the commit of 2 at 5: %v, not %v", got, want)
	}
	taken(t, want, 5, commit(2))
}

// P6.2: sectors that are written out by hand.
func TestBytesByHand(t *testing.T) {
	data := make([]byte, 44)
	for i := range data {
		data[i] = byte(100 + i)
	}
	for _, c := range []struct {
		lsn  int64
		r    api.Record
		want []byte
	}{
		{0x0102030405060708, patch(0x0506, 9, 10, 11), []byte{1, 2, 8, 7, 6, 5, 4, 3, 2, 1, 6, 5, 0, 0, 9, 0, 10, 11}},
		{0, patch(0, 255, 1), []byte{1, 1, 0, 0, 0, 0, 0, 0, 0, 0, 0, 0, 0, 0, 255, 0, 1}},
		{0, patch(0, 0, 0), []byte{1, 1}},
		{most, patch(2047, 212, data...), slices.Concat([]byte{1, 44, 0, 0, 0, 0, 0, 0, 0, 32, 255, 7, 0, 0, 212, 0}, data)},
		{0, commit(0), []byte{2}},
		{most, commit(1 << 16), []byte{2, 0, 0, 0, 0, 0, 0, 0, 0, 32, 0, 0, 1}},
		{most - 1, commit(0xfedc), []byte{2, 0, 255, 255, 255, 255, 255, 255, 255, 31, 0xdc, 0xfe}},
	} {
		want := resummed(append(c.want, make([]byte, 60)...))
		if got := bytesOf(t, c.lsn, c.r); !bytes.Equal(got, want) {
			t.Errorf("Bytes of %v at %d: %v, not %v", brief(c.r), c.lsn, got, want)
		}
		taken(t, want, c.lsn, c.r)
	}
}

// P6.2, P6.3: Bytes of several records at several places, and what is taken of them.
func TestThereAndBack(t *testing.T) {
	for _, r := range several() {
		for _, lsn := range places {
			b := bytesOf(t, lsn, r)
			if want := numbersOf(lsn, r).sector(); !bytes.Equal(b, want) {
				t.Fatalf("Bytes of %v at %d: %v, not %v", brief(r), lsn, b, want)
			}
			taken(t, b, lsn, r)
			taken(t, numbersOf(lsn, r).sector(), lsn, r)
		}
	}
}

// P6.2, R2: a place that may not be is said first, then a record that may not be; nothing is answered beside them.
func TestBytesOfWrong(t *testing.T) {
	refused := func(lsn int64, r api.Record, want api.Errno) {
		t.Helper()
		if b, e := record.Bytes(lsn, r); b != nil || e != want {
			t.Fatalf("Bytes of %v at %d: %v, error %d, not %d", brief(r), lsn, b, int(e), int(want))
		}
	}
	for _, r := range wrong() {
		for _, lsn := range noPlaces {
			refused(lsn, r, api.ErrArg)
		}
		for _, lsn := range places {
			refused(lsn, r, api.ErrRecord)
		}
	}
	for _, r := range several() {
		for _, lsn := range noPlaces {
			refused(lsn, r, api.ErrArg)
		}
	}
}

// P6.2, P6.3: the edges of the place.
func TestPlaceEdges(t *testing.T) {
	r := patch(300, 7, 'a')
	for _, lsn := range []int64{0, most} {
		taken(t, bytesOf(t, lsn, r), lsn, r)
	}
	for _, lsn := range []int64{-1, most + 1} {
		if b, e := record.Bytes(lsn, r); b != nil || e != api.ErrArg {
			t.Errorf("Bytes at %d: %v, error %d", lsn, b, int(e))
		}
		notAt(t, "a sector", bytesOf(t, 0, r), lsn, api.ErrArg)
	}
	for _, lsn := range noPlaces { // the sum is right, and the sector says that place
		for _, n := range []numbers{numbersOf(lsn, r), numbersOf(lsn, commit(2))} {
			b := n.sector()
			stale(t, "a sector of a place that may not be", b)
			notAt(t, "a sector of a place that may not be", b, lsn, api.ErrArg)
			notAt(t, "a sector of a place that may not be", b, lsn&most, api.ErrStale)
		}
	}
}

// P6.2, R2: of a place that may not be Take says ErrArg, whatever the bytes are.
func TestTakeOfNoPlace(t *testing.T) {
	for _, lsn := range noPlaces {
		for _, b := range [][]byte{nil, {}, make([]byte, 63), make([]byte, 64), make([]byte, 65), plain().sector(), bytes.Repeat([]byte{255}, 64)} {
			notAt(t, "bytes", b, lsn, api.ErrArg)
		}
	}
}

// P6.5: a sector is taken at no other place.
func TestEachToItsPlace(t *testing.T) {
	for _, r := range []api.Record{patch(300, 7, 'a', 'b', 'c'), patch(0, 0, 0), commit(0), commit(1 << 16)} {
		for _, lsn := range places {
			b := bytesOf(t, lsn, r)
			for _, other := range places {
				if other != lsn {
					notAt(t, "a sector of another place", b, other, api.ErrStale)
				}
			}
			for bit := range 62 {
				if other := lsn ^ 1<<bit; other <= most {
					notAt(t, "a sector of another place", b, other, api.ErrStale)
				}
			}
			for _, other := range []int64{lsn - 2, lsn - 1, lsn + 1, lsn + 2, lsn + 8, lsn + 1024, most - lsn + 1} {
				if other >= 0 && other <= most {
					notAt(t, "a sector of another place", b, other, api.ErrStale)
				}
			}
			taken(t, b, lsn, r)
		}
	}
}

// P6.6: unlike records, or places, have unlike sectors.
func TestUnlike(t *testing.T) {
	seen := map[string]int{}
	for i, r := range several() {
		for j, lsn := range places {
			b := string(bytesOf(t, lsn, r))
			if at := seen[b]; at != 0 {
				t.Fatalf("%v at %d has the sector of another one, %d", brief(r), lsn, at)
			}
			seen[b] = 1 + i*len(places) + j
		}
	}
}

// P6.6: records that are nearly the same: noughts at Data's end, a patch's block and a commit's number.
func TestNearlyTheSame(t *testing.T) {
	seen := map[string]int{}
	many := 0
	add := func(r api.Record) {
		many++
		seen[string(bytesOf(t, 9, r))]++
	}
	for n := 1; n <= 44; n++ {
		add(patch(2, 0, make([]byte, n)...))
		add(patch(2, 0, append(make([]byte, n-1), 1)...))
	}
	for v := range 2048 {
		add(patch(v, 1, 0))
		add(commit(v))
	}
	for off := 2; off < 256; off++ {
		add(patch(2, off, 0))
	}
	if len(seen) != many {
		t.Errorf("%d records have %d sectors", many, len(seen))
	}
}

// P6.2, P6.3: not just a sector's bytes.
func TestLengths(t *testing.T) {
	for _, r := range []api.Record{patch(300, 7, 'a', 'b', 'c'), patch(1, 2, row(44)...), commit(2)} {
		long := append(bytesOf(t, 5, r), make([]byte, 300)...)
		for n := range len(long) {
			if n != 64 {
				stale(t, "a sector, cut or with noughts behind it", long[:n])
			}
		}
		taken(t, long[:64], 5, r)
		stale(t, "63 bytes", long[:63])
		stale(t, "65 bytes", long[:65])
		stale(t, "the last 63 bytes", long[1:64])
		stale(t, "two sectors", slices.Concat(long[:64], long[:64]))
		stale(t, "a block", slices.Concat(long[:64], long[:64], long[:64], long[:64]))
	}
	stale(t, "nil", nil)
	stale(t, "none", []byte{})
	stale(t, "noughts", make([]byte, 64))
	stale(t, "noughts with their sum", resummed(make([]byte, 60)))
	stale(t, "all ones", bytes.Repeat([]byte{255}, 64))
	stale(t, "all ones with their sum", resummed(bytes.Repeat([]byte{255}, 60)))
	stale(t, "a long row", make([]byte, 1<<24))
}

// P6.2, P6.3: each byte of a sector counts, and each of its bits.
func TestEachByte(t *testing.T) {
	for _, r := range []api.Record{patch(300, 7, 'a', 'b', 'c'), patch(0, 0, 0), patch(2047, 212, row(44)...), commit(0), commit(2), commit(1 << 16)} {
		for _, lsn := range []int64{0, 5, most} {
			b := bytesOf(t, lsn, r)
			for i := range b {
				for change := 1; change < 256; change++ {
					b[i] ^= byte(change)
					stale(t, "a sector with a byte changed", b)
					b[i] ^= byte(change)
				}
			}
			taken(t, b, lsn, r)
		}
	}
}

// P6.2: the sum is right, but a byte that must be 0 is not: the one behind Off, and those behind Data.
func TestNoughts(t *testing.T) {
	for _, n := range []numbers{plain(), {1, 1, 5, 0, 0, 0, []byte{0}}, {1, 43, 5, 9, 9, 0, row(43)}, {1, 44, 5, 9, 9, 0, row(44)}, {2, 0, 5, 2, 0, 0, nil}} {
		good := n.sector()
		for i := 15; i < 60; i++ {
			if i > 15 && i < 16+int(n.size) {
				continue
			}
			for change := 1; change < 256; change++ {
				b := bytes.Clone(good)
				b[i] = byte(change)
				stale(t, "a sector with a right sum and a byte that is not 0", resummed(b))
			}
		}
	}
}

// P6.2, P6.3: the sum is right, but the record may not be.
func TestFields(t *testing.T) {
	change := func(from numbers, f func(n *numbers)) {
		t.Helper()
		f(&from)
		stale(t, "a sector of a record that may not be", from.sector())
	}
	done := numbers{2, 0, 5, 2, 0, 0, nil}
	for kind := range 256 {
		if kind != 1 {
			change(plain(), func(n *numbers) { n.kind = byte(kind) })
		}
		if kind != 2 {
			change(done, func(n *numbers) { n.kind = byte(kind) })
		}
	}
	for size := range 256 {
		if size > 44 || size < 3 {
			change(plain(), func(n *numbers) { n.size = byte(size) })
		}
		if size > 44 || size == 0 {
			change(numbers{1, 1, 5, 300, 0, 0, row(44)}, func(n *numbers) { n.size = byte(size) })
			change(numbers{1, 1, 5, 300, 0, 0, nil}, func(n *numbers) { n.size = byte(size) })
		}
		if size > 0 {
			change(done, func(n *numbers) { n.size = byte(size) })
		}
	}
	for _, v := range []uint32{2048, 2049, 1 << 16, 1<<16 + 300, 1<<31 - 1, 1 << 31, 1<<31 + 300, 1<<32 - 300, 1<<32 - 1} {
		change(plain(), func(n *numbers) { n.number = v })
	}
	for _, v := range []uint32{1<<16 + 1, 1 << 17, 1<<31 - 1, 1 << 31, 1<<31 + 2, 1<<32 - 2, 1<<32 - 1} {
		change(done, func(n *numbers) { n.number = v })
	}
	for off := range 256 {
		if off > 253 {
			change(plain(), func(n *numbers) { n.off = byte(off) })
		}
		if off > 212 {
			change(numbers{1, 44, 5, 300, 0, 0, row(44)}, func(n *numbers) { n.off = byte(off) })
		}
		if off > 0 {
			change(done, func(n *numbers) { n.off = byte(off) })
		}
	}
}

// mayBe tells by its bytes alone whether b is a sector of a place and a record that may be; the sum is not asked.
func mayBe(b []byte) bool {
	place, number := binary.LittleEndian.Uint64(b[2:]), binary.LittleEndian.Uint32(b[10:])
	size, off := int(b[1]), int(b[14])
	if place > most || b[15] != 0 || size > 44 || !bytes.Equal(b[16+size:60], make([]byte, 44-size)) {
		return false
	}
	if b[0] == 2 {
		return size == 0 && off == 0 && number <= 1<<16
	}
	return b[0] == 1 && size >= 1 && off+size <= 256 && number < 2048
}

// P6.4: of sectors whose sum is right and of which some bits are turned by chance: those are taken that may be, and Bytes of what is taken are the bytes.
func TestTakenIsBytes(t *testing.T) {
	d := dice(62)
	many := 0
	l := several()
	for range 40000 {
		b := bytesOf(t, places[d.from(0, len(places)-1)], l[d.from(0, len(l)-1)])
		for range d.from(1, 3) {
			b[d.from(0, 24)] ^= 1 << d.from(0, 7)
		}
		b = resummed(b)
		if !mayBe(b) {
			stale(t, "a sector that may not be", b)
			continue
		}
		many++
		at, e := record.Lsn(b)
		if uint64(at) != binary.LittleEndian.Uint64(b[2:]) || e != api.OK {
			t.Fatalf("Lsn of %v: %d, error %d", b, at, int(e))
		}
		r, e := record.Take(b, at)
		if e != api.OK || record.Check(r) != api.OK {
			t.Fatalf("Take of %v: %v, error %d", b, brief(r), int(e))
		}
		if got := bytesOf(t, at, r); !bytes.Equal(got, b) {
			t.Fatalf("Take of %v: %v, whose Bytes are %v", b, brief(r), got)
		}
	}
	if many < 4000 {
		t.Errorf("only %d sectors were taken", many)
	}
}

// R1, R2: bytes by chance, of all lengths, with their sum and without.
func TestAnything(t *testing.T) {
	d := dice(63)
	for n := range 300 {
		stale(t, "bytes by chance", d.bytes(n))
	}
	for range 2000 {
		b := d.bytes(64)
		stale(t, "a sector by chance", b)
		if b = resummed(b); !mayBe(b) {
			stale(t, "a sector by chance with its sum", b)
		}
		b[0], b[9] = 1+b[0]%2, 0
		if b = resummed(b); !mayBe(b) {
			stale(t, "a sector by chance with its sum", b)
		}
	}
}

// R3: what is handed in is not written to, nor the room behind it.
func TestHandedInIsLeft(t *testing.T) {
	for _, r := range []api.Record{patch(300, 7, 'a', 'b', 'c'), patch(1, 2, row(44)...), patch(1, 2, row(45)...), commit(2), patch(1, 2)} {
		room := slices.Concat(r.Data, bytes.Repeat([]byte{200}, 100))
		was := bytes.Clone(room)
		r.Data = room[:len(r.Data)]
		record.Bytes(5, r)
		record.Bytes(-1, r)
		if !bytes.Equal(room, was) {
			t.Fatalf("Bytes of %v: Data was written to, %v", brief(r), room)
		}
	}
	for _, r := range []api.Record{patch(300, 7, 'a', 'b', 'c'), patch(1, 2, row(44)...), commit(2)} {
		room := append(bytesOf(t, 5, r), bytes.Repeat([]byte{200}, 100)...)
		was := bytes.Clone(room)
		for _, n := range []int{0, 2, 16, 60, 63, 64, 65, 164} {
			record.Take(room[:n], 5)
			record.Take(room[:n], 6)
			record.Take(room[:n], -1)
			record.Lsn(room[:n])
			if !bytes.Equal(room, was) {
				t.Fatalf("%d bytes of %v: written to, %v", n, brief(r), room)
			}
		}
	}
}

// R3: what is answered is nobody's else.
func TestAnswersAreOwn(t *testing.T) {
	for _, r := range []api.Record{patch(300, 7, 'a', 'b', 'c'), patch(1, 2, row(44)...), commit(2)} {
		was := bytesOf(t, 5, r)
		b, second := bytesOf(t, 5, r), bytesOf(t, 5, r)
		clear(b)
		b = append(b, 1, 2, 3)
		if !bytes.Equal(second, was) || !bytes.Equal(bytesOf(t, 5, r), was) || len(b) != 67 {
			t.Fatalf("Bytes of %v goes with another answer", brief(r))
		}

		x, _ := record.Take(second, 5)
		y, _ := record.Take(second, 5)
		for i := range x.Data {
			x.Data[i] ^= 255
		}
		x.Data = append(x.Data, 1, 2, 3, 4, 5, 6, 7, 8)
		if !bytes.Equal(second, was) || !equal(y, r) || len(x.Data) < 8 {
			t.Fatalf("Take of %v goes with another answer, or with the sector", brief(r))
		}
		clear(second)
		if !equal(y, r) {
			t.Fatalf("Take of %v goes with the sector", brief(r))
		}
	}
	data := []byte("abc")
	b := bytesOf(t, 5, patch(300, 7, data...))
	was := bytes.Clone(b)
	clear(data)
	if !bytes.Equal(b, was) {
		t.Error("Bytes goes with Data")
	}
}

// R6: the same call answers the same.
func TestAgain(t *testing.T) {
	b := plain().sector()
	for range 3 {
		taken(t, b, 5, patch(300, 7, 'a', 'b', 'c'))
		notAt(t, "a sector of 5", b, 6, api.ErrStale)
	}
}
