package word_test

import (
	"bytes"
	"hash/crc32"
	"math"
	"slices"
	"testing"

	"attic/api"
	"attic/word"
)

// dice is a row of numbers that is the same in each run.
type dice uint64

func (d *dice) next() uint64 {
	*d += 0x9e3779b97f4a7c15
	z := uint64(*d)
	z = (z ^ z>>30) * 0xbf58476d1ce4e5b9
	z = (z ^ z>>27) * 0x94d049bb133111eb
	return z ^ z>>31
}

func (d *dice) bytes(n int) []byte {
	b := make([]byte, n)
	for i := range b {
		b[i] = byte(d.next())
	}
	return b
}

// number has all lengths about equally often.
func (d *dice) number() uint64 { return d.next() >> (d.next() % 64) }

// edges are the numbers ahead of, at and behind each step of a bit.
func edges() []uint64 {
	out := []uint64{0, math.MaxUint64}
	for i := range 64 {
		v := uint64(1) << i
		out = append(out, v-1, v, v+1, ^v)
	}
	return out
}

func numbers() []uint64 {
	d := dice(1)
	out := edges()
	for range 2000 {
		out = append(out, d.number())
	}
	return out
}

// lowest is the number of v's lowest n bytes.
func lowest(n int, v uint64) uint64 {
	if n == 8 {
		return v
	}
	return v % (1 << (8 * n))
}

var wrongWidths = []int{math.MinInt, -256, -8, -1, 0, 9, 10, 16, 256, 257, math.MaxInt}

func TestErrorNumbers(t *testing.T) {
	for e, want := range map[api.Errno]int{
		api.OK: 0, api.ErrArg: 1, api.ErrMade: 2,
		api.ErrShort: 10, api.ErrSum: 11, api.ErrMore: 12, api.ErrUvar: 13,
	} {
		if int(e) != want {
			t.Errorf("an error's number: %d, not %d", int(e), want)
		}
	}
}

// P1.1: Num.
func TestNum(t *testing.T) {
	const v = 0x0807060504030201
	for _, c := range []struct {
		n    int
		v    uint64
		want []byte
	}{
		{2, 300, []byte{44, 1}},
		{1, v, []byte{1}},
		{2, v, []byte{1, 2}},
		{3, v, []byte{1, 2, 3}},
		{4, v, []byte{1, 2, 3, 4}},
		{5, v, []byte{1, 2, 3, 4, 5}},
		{6, v, []byte{1, 2, 3, 4, 5, 6}},
		{7, v, []byte{1, 2, 3, 4, 5, 6, 7}},
		{8, v, []byte{1, 2, 3, 4, 5, 6, 7, 8}},
		{1, 0, []byte{0}},
		{8, 0, make([]byte, 8)},
		{1, math.MaxUint64, []byte{255}},
		{8, math.MaxUint64, bytes.Repeat([]byte{255}, 8)},
		{1, 256, []byte{0}},
		{4, 1 << 32, []byte{0, 0, 0, 0}},
		{5, 1 << 32, []byte{0, 0, 0, 0, 1}},
	} {
		if got := word.Num(c.n, c.v); !bytes.Equal(got, c.want) {
			t.Errorf("Num(%d, %x): %v, not %v", c.n, c.v, got, c.want)
		}
	}
	for _, n := range wrongWidths {
		if got := word.Num(n, v); len(got) != 0 {
			t.Errorf("Num(%d, v): %v, not nothing", n, got)
		}
	}
}

// P1.1: Get.
func TestGet(t *testing.T) {
	b := []byte{1, 2, 3, 4, 5, 6, 7, 8, 9, 255}
	for _, c := range []struct {
		at, n int
		want  uint64
	}{
		{0, 1, 1}, {9, 1, 255}, {8, 2, 0xff09}, {1, 3, 0x040302},
		{0, 8, 0x0807060504030201}, {2, 8, 0xff09080706050403}, {3, 7, 0xff090807060504},
	} {
		if got, ok := word.Get(b, c.at, c.n); got != c.want || !ok {
			t.Errorf("Get(b, %d, %d): %x, %v, not %x, true", c.at, c.n, got, ok, c.want)
		}
	}
	if got, ok := word.Get([]byte{44, 1}, 0, 2); got != 300 || !ok {
		t.Errorf("Get of 44, 1: %d, %v, not 300, true", got, ok)
	}
}

func TestGetWrong(t *testing.T) {
	b := []byte{1, 2, 3, 4, 5, 6, 7, 8, 9, 255}
	refused := func(b []byte, at, n int) {
		t.Helper()
		if got, ok := word.Get(b, at, n); got != 0 || ok {
			t.Errorf("Get of %d bytes, at %d, n %d: %d, %v, not 0, false", len(b), at, n, got, ok)
		}
	}
	for _, n := range wrongWidths {
		for _, at := range []int{math.MinInt, -1, 0, 1, 10, 11, math.MaxInt} {
			refused(b, at, n)
		}
	}
	for n := 1; n <= 8; n++ {
		for _, at := range []int{math.MinInt, -8, -n, -1, 11 - n, 10, 11, math.MaxInt - n, math.MaxInt} {
			refused(b, at, n)
		}
		refused(nil, 0, n)
		refused([]byte{}, 0, n)
		refused(b[:n-1], 0, n)
		refused(b[:n-1], -1, n)
	}
}

// Bytes behind a slice's end are none of it, though it has room for them.
func TestGetStopsAtTheLength(t *testing.T) {
	b := []byte{1, 2, 3, 4, 5, 6, 7, 8}
	if got, ok := word.Get(b[:2], 1, 2); got != 0 || ok {
		t.Errorf("Get behind the end: %d, %v, not 0, false", got, ok)
	}
}

// uvar is the document's rule, put another way: by division.
func uvar(v uint64) []byte {
	var b []byte
	for ; v >= 128; v /= 128 {
		b = append(b, byte(v%128+128))
	}
	return append(b, byte(v))
}

// P1.2: Uvar.
func TestUvar(t *testing.T) {
	for v, want := range map[uint64][]byte{
		0: {0}, 1: {1}, 127: {127}, 128: {128, 1}, 300: {172, 2},
		16383: {255, 127}, 16384: {128, 128, 1},
		1<<63 - 1:      {255, 255, 255, 255, 255, 255, 255, 255, 127},
		1 << 63:        {128, 128, 128, 128, 128, 128, 128, 128, 128, 1},
		math.MaxUint64: {255, 255, 255, 255, 255, 255, 255, 255, 255, 1},
	} {
		if got := word.Uvar(v); !bytes.Equal(got, want) {
			t.Errorf("Uvar(%d): %v, not %v", v, got, want)
		}
	}
	for _, v := range numbers() {
		if got, want := word.Uvar(v), uvar(v); !bytes.Equal(got, want) {
			t.Errorf("Uvar(%d): %v, not %v", v, got, want)
		}
	}
}

// P1.2: TakeUvar.
func TestTakeUvar(t *testing.T) {
	long := func(n int, c byte, last ...byte) []byte {
		return slices.Concat(bytes.Repeat([]byte{c}, n), last)
	}
	for _, c := range []struct {
		b    []byte
		want uint64
		n    int
		e    api.Errno
	}{
		{[]byte{0}, 0, 1, api.OK},
		{[]byte{0, 0}, 0, 1, api.OK},
		{[]byte{1, 128}, 1, 1, api.OK},
		{[]byte{127}, 127, 1, api.OK},
		{[]byte{172, 2}, 300, 2, api.OK},
		{[]byte{172, 2, 0, 255}, 300, 2, api.OK},
		{[]byte{128, 127}, 127 << 7, 2, api.OK},
		{long(8, 255, 127), 1<<63 - 1, 9, api.OK},
		{long(9, 128, 1), 1 << 63, 10, api.OK},
		{long(9, 255, 1), math.MaxUint64, 10, api.OK},
		{long(9, 255, 1, 255), math.MaxUint64, 10, api.OK},

		{nil, 0, 0, api.ErrShort},
		{[]byte{}, 0, 0, api.ErrShort},
		{[]byte{128}, 0, 0, api.ErrShort},
		{[]byte{255, 255}, 0, 0, api.ErrShort},
		{long(9, 128), 0, 0, api.ErrShort},
		{long(9, 255), 0, 0, api.ErrShort},

		{[]byte{128, 0}, 0, 0, api.ErrUvar},
		{[]byte{255, 0, 1}, 0, 0, api.ErrUvar},
		{[]byte{128, 128, 0}, 0, 0, api.ErrUvar},
		{long(8, 255, 0), 0, 0, api.ErrUvar},
		{long(9, 255, 0), 0, 0, api.ErrUvar},
		{long(9, 255, 2), 0, 0, api.ErrUvar},
		{long(9, 128, 3), 0, 0, api.ErrUvar},
		{long(9, 128, 127), 0, 0, api.ErrUvar},
		// A tenth byte of 128 is above 1 already: that the bytes end behind it comes too late.
		{long(10, 128), 0, 0, api.ErrUvar},
		{long(10, 255), 0, 0, api.ErrUvar},
		{long(9, 255, 129), 0, 0, api.ErrUvar},
		{long(9, 255, 129, 1), 0, 0, api.ErrUvar},
		{long(40, 128, 1), 0, 0, api.ErrUvar},
	} {
		if v, n, e := word.TakeUvar(c.b); v != c.want || n != c.n || e != c.e {
			t.Errorf("TakeUvar(%v): %d, %d, %d, not %d, %d, %d", c.b, v, n, int(e), c.want, c.n, int(c.e))
		}
	}
}

// P1.3: Sum.
func TestSum(t *testing.T) {
	up, down := make([]byte, 32), make([]byte, 32)
	for i := range up {
		up[i], down[i] = byte(i), byte(31-i)
	}
	for _, c := range []struct {
		b    []byte
		want uint32
	}{
		{[]byte("123456789"), 0xe3069283},
		{nil, 0},
		{[]byte{}, 0},
		{make([]byte, 32), 0x8a9136aa},
		{bytes.Repeat([]byte{255}, 32), 0x62a8ab43},
		{up, 0x46dd794e},
		{down, 0x113fdb5c},
	} {
		if got := word.Sum(c.b); got != c.want {
			t.Errorf("Sum(%v): %x, not %x", c.b, got, c.want)
		}
	}
	d := dice(2)
	castagnoli := crc32.MakeTable(crc32.Castagnoli)
	for n := range 300 {
		b := d.bytes(n)
		if got, want := word.Sum(b), crc32.Checksum(b, castagnoli); got != want {
			t.Errorf("Sum of %d bytes: %x, not %x", n, got, want)
		}
	}
}

// P1.3: Seal.
func TestSeal(t *testing.T) {
	for _, c := range []struct{ b, want []byte }{
		{[]byte("123456789"), []byte("123456789\x83\x92\x06\xe3")},
		{nil, []byte{0, 0, 0, 0}},
		{[]byte{}, []byte{0, 0, 0, 0}},
	} {
		if got := word.Seal(c.b); !bytes.Equal(got, c.want) {
			t.Errorf("Seal(%v): %v, not %v", c.b, got, c.want)
		}
	}
}

// P1.3: Unseal.
func TestUnseal(t *testing.T) {
	for _, c := range []struct {
		b, want []byte
		e       api.Errno
	}{
		{[]byte("123456789\x83\x92\x06\xe3"), []byte("123456789"), api.OK},
		{[]byte{0, 0, 0, 0}, nil, api.OK},
		{nil, nil, api.ErrShort},
		{[]byte{}, nil, api.ErrShort},
		{[]byte{0}, nil, api.ErrShort},
		{[]byte{0, 0}, nil, api.ErrShort},
		{[]byte{0, 0, 0}, nil, api.ErrShort},
		{[]byte{1, 2, 3}, nil, api.ErrShort},
		{[]byte{0, 0, 0, 1}, nil, api.ErrSum},
		{[]byte{1, 0, 0, 0}, nil, api.ErrSum},
		{[]byte{0, 0, 0, 0, 0}, nil, api.ErrSum},
		{[]byte("123456789\xe3\x06\x92\x83"), nil, api.ErrSum},
		{[]byte("123456789\x83\x92\x06\xe3\x00"), nil, api.ErrSum},
		{[]byte("123456789\x83\x92\x06"), nil, api.ErrSum},
		{[]byte("123456788\x83\x92\x06\xe3"), nil, api.ErrSum},
	} {
		got, e := word.Unseal(c.b)
		if !bytes.Equal(got, c.want) || e != c.e {
			t.Errorf("Unseal(%v): %v, %d, not %v, %d", c.b, got, int(e), c.want, int(c.e))
		}
		if e != api.OK && got != nil {
			t.Errorf("Unseal(%v): a list beside an error", c.b)
		}
	}
}

// Each bit of the sum counts, and each of the bytes ahead.
func TestUnsealSeesEachBit(t *testing.T) {
	d := dice(3)
	for n := range 20 {
		b := word.Seal(d.bytes(n))
		for i := range 8 * len(b) {
			b[i/8] ^= 1 << (i % 8)
			if got, e := word.Unseal(b); got != nil || e != api.ErrSum {
				t.Fatalf("Unseal of %d bytes, bit %d turned: %v, %d, not ErrSum", n, i, got, int(e))
			}
			b[i/8] ^= 1 << (i % 8)
		}
	}
}

// P1.5: Get of Num.
func TestThereAndBackNum(t *testing.T) {
	for _, v := range numbers() {
		for n := 1; n <= 8; n++ {
			b := slices.Concat([]byte{7, 8, 9}, word.Num(n, v), []byte{77})
			if got, ok := word.Get(b, 3, n); got != lowest(n, v) || !ok {
				t.Fatalf("Get of Num(%d, %x): %x, %v", n, v, got, ok)
			}
		}
	}
}

// P1.5: TakeUvar of Uvar, whatever stands behind it.
func TestThereAndBackUvar(t *testing.T) {
	d := dice(4)
	for _, v := range numbers() {
		u := word.Uvar(v)
		for _, behind := range [][]byte{nil, {0}, {1}, {127}, {128}, {255}, {0, 0}, d.bytes(12)} {
			got, n, e := word.TakeUvar(slices.Concat(u, behind))
			if got != v || n != len(u) || e != api.OK {
				t.Fatalf("TakeUvar of Uvar(%d) and %v: %d, %d, %d", v, behind, got, n, int(e))
			}
		}
	}
}

// P1.5: what TakeUvar takes is its number's Uvar.
func TestTakenIsUvar(t *testing.T) {
	check := func(b []byte) {
		t.Helper()
		v, n, e := word.TakeUvar(b)
		if e != api.OK {
			if v != 0 || n != 0 {
				t.Fatalf("TakeUvar(%v): %d, %d beside an error", b, v, n)
			}
			return
		}
		if n > len(b) || !bytes.Equal(b[:n], word.Uvar(v)) {
			t.Fatalf("TakeUvar(%v): %d, %d, whose Uvar is %v", b, v, n, word.Uvar(v))
		}
	}
	for i := range 1 << 16 {
		check([]byte{byte(i), byte(i >> 8)})
	}
	d := dice(5)
	for range 20000 {
		b := d.bytes(int(d.next() % 13))
		for i := range b { // so that long ones are met, and noughts
			switch d.next() % 8 {
			case 0:
				b[i] = 0
			case 1:
				b[i] = 1
			case 2:
			default:
				b[i] |= 128
			}
		}
		check(b)
	}
}

// P1.5: Unseal of Seal.
func TestThereAndBackSeal(t *testing.T) {
	d := dice(6)
	for n := range 300 {
		b := d.bytes(n)
		s := word.Seal(b)
		if len(s) != n+4 {
			t.Fatalf("Seal of %d bytes has %d", n, len(s))
		}
		if got, e := word.Unseal(s); !bytes.Equal(got, b) || e != api.OK {
			t.Fatalf("Unseal of Seal(%v): %v, %d", b, got, int(e))
		}
	}
}

// P1.6: a burst is seen.
func TestBurst(t *testing.T) {
	d := dice(7)
	for _, n := range []int{1, 2, 3, 4, 5, 8, 13, 64} {
		b := d.bytes(n)
		was := word.Sum(b)
		for first := range 8 * n {
			for long := 1; long <= 32 && first+long <= 8*n; long++ {
				burst := d.next()%(1<<long) | 1 | 1<<(long-1)
				turn(b, first, burst)
				if word.Sum(b) == was {
					t.Fatalf("%d bytes, bits %x turned from %d on: the same Sum", n, burst, first)
				}
				turn(b, first, burst)
			}
		}
	}
}

// turn turns b's bits where burst has a 1, from the bit first on.
func turn(b []byte, first int, burst uint64) {
	for i := first; burst != 0; i, burst = i+1, burst>>1 {
		b[i/8] ^= byte(burst&1) << (i % 8)
	}
}

// P1.7: it is linear.
func TestLinear(t *testing.T) {
	d := dice(8)
	for n := range 200 {
		x, y, z, all := d.bytes(n), d.bytes(n), d.bytes(n), make([]byte, n)
		for i := range all {
			all[i] = x[i] ^ y[i] ^ z[i]
		}
		if got, want := word.Sum(x)^word.Sum(y)^word.Sum(z), word.Sum(all); got != want {
			t.Fatalf("three rows of %d bytes: %x, not %x", n, got, want)
		}
	}
}

// R3: what is handed in is not written to, the room behind it neither.
func TestHandedInIsLeft(t *testing.T) {
	room := bytes.Repeat([]byte{200}, 40)
	for n := range 20 {
		b := room[:n]
		word.Get(b, 0, 8)
		word.TakeUvar(b)
		word.Sum(b)
		word.Seal(b)
		word.Unseal(b)
		r := word.Read(b)
		r.Num(3)
		r.Bytes(2)
		r.Uvar()
		if !bytes.Equal(room, bytes.Repeat([]byte{200}, 40)) {
			t.Fatalf("%d bytes handed in: written to: %v", n, room)
		}
	}
}

// R3: answers and what was handed in share nothing.
func TestAnswersAreNobodysElse(t *testing.T) {
	b := []byte("123456789")
	s := word.Seal(b)
	b[0] = 'x'
	if !bytes.Equal(s, []byte("123456789\x83\x92\x06\xe3")) {
		t.Errorf("Seal's answer goes with what was handed in: %q", s)
	}
	u, _ := word.Unseal(s)
	s[1] = 'x'
	if string(u) != "123456789" {
		t.Errorf("Unseal's answer goes with what was handed in: %q", u)
	}
	u[2] = 'y'
	_ = append(u, 'z', 'z', 'z', 'z')
	if string(s) != "1x3456789\x83\x92\x06\xe3" {
		t.Errorf("what was handed in goes with Unseal's answer: %q", s)
	}
	s = word.Seal(b)
	s[3] = 'y'
	if string(b) != "x23456789" {
		t.Errorf("what was handed in goes with Seal's answer: %q", b)
	}
}

// R3, R6: an answer that is changed changes no later one.
func TestAnswersAgain(t *testing.T) {
	for _, f := range []func() []byte{
		func() []byte { return word.Num(2, 300) },
		func() []byte { return word.Uvar(300) },
		func() []byte { return word.Uvar(0) },
		func() []byte { return word.Seal(nil) },
		func() []byte { return word.Seal([]byte("123456789")) },
		func() []byte { b, _ := word.Unseal([]byte("123456789\x83\x92\x06\xe3")); return b },
		func() []byte { return word.Read([]byte("abc")).Bytes(2) },
	} {
		got := f()
		want := bytes.Clone(got)
		for i := range got {
			got[i] ^= 255
		}
		if again := f(); !bytes.Equal(again, want) {
			t.Errorf("asked again: %v, not %v", again, want)
		}
	}
}

// THE BOUND: a long row is taken in one go, and a number asks for its own bytes alone.
func TestLongRows(t *testing.T) {
	d := dice(9)
	b := d.bytes(1 << 22)
	if got, e := word.Unseal(word.Seal(b)); !bytes.Equal(got, b) || e != api.OK {
		t.Errorf("Unseal of Seal of a long row: %d bytes, %d", len(got), int(e))
	}
	for range 1 << 20 {
		word.TakeUvar(b)
		word.Get(b, 1<<21, 8)
	}
}
