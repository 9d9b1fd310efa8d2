package disk_test

import (
	"bytes"
	"math"
	"slices"
	"testing"

	"attic/api"
	"attic/disk"
)

// off lets the power go, and looks at what is so behind it, whatever was pending.
func off(t *testing.T, d *disk.Disk, picks ...uint8) {
	t.Helper()
	ops := d.Ops()
	want(t, "Crash", d.Crash(picks...), api.OK)
	if d.On() {
		t.Fatal("the power is there behind a Crash")
	}
	wantPending(t, d)
	wantOps(t, d, ops)
}

// mix is a block, of whose sectors each is of the block that stands there.
func mix(of ...[]byte) []byte {
	var out []byte
	for k, b := range of {
		out = append(out, b[k*64:k*64+64]...)
	}
	return out
}

// The chapter's example.
func TestExample(t *testing.T) {
	d := fresh(t, 1)
	a, b := full(10), full(20)
	want(t, "Write", d.Write(0, a), api.OK)
	want(t, "Write", d.Write(0, b), api.OK)
	off(t, d, 15, 1)
	want(t, "Restart", d.Restart(), api.OK)
	wantBlock(t, d, 0, mix(b, a, a, a))
	wantImage(t, d, mix(b, a, a, a))
}

// P3.3: all picks of one write; bits from 16 on count for nothing.
func TestEachPick(t *testing.T) {
	a := full(100)
	for pick := range 256 {
		image := imageOf(2)
		d := with(t, image)
		want(t, "Write", d.Write(1, a), api.OK)
		off(t, d, uint8(pick))
		sectors := [][]byte{image[256:], image[256:], image[256:], image[256:]}
		if pick%2 >= 1 {
			sectors[0] = a
		}
		if pick%4 >= 2 {
			sectors[1] = a
		}
		if pick%8 >= 4 {
			sectors[2] = a
		}
		if pick%16 >= 8 {
			sectors[3] = a
		}
		wantImage(t, d, slices.Concat(image[:256], mix(sectors...)))
	}
}

// P3.3: the writes have their picks in order, and come to the medium in order.
func TestPicksInOrder(t *testing.T) {
	image := imageOf(2)
	a, b, c, x := full(50), full(60), full(70), full(80)
	for _, s := range []struct {
		picks       []uint8
		zero, first []byte
	}{
		{nil, image[:256], image[256:]},
		{[]uint8{}, image[:256], image[256:]},
		{[]uint8{15}, a, image[256:]},
		{[]uint8{0, 15}, image[:256], x},
		{[]uint8{15, 15}, a, x},
		{[]uint8{15, 15, 3}, mix(b, b, a, a), x},
		{[]uint8{15, 0, 3, 6}, mix(b, c, c, a), image[256:]},
		{[]uint8{15, 15, 15, 15}, c, x},
		{[]uint8{15, 15, 15, 15, 15, 15}, c, x},
		{[]uint8{1, 2, 4, 8, 15, 15}, mix(a, image[:256], b, c), mix(image[256:], x, image[256:], image[256:])},
		{[]uint8{0xff, 0xf0, 0xf3, 0xf6}, mix(b, c, c, a), image[256:]},
		{[]uint8{16, 32, 64, 128}, image[:256], image[256:]},
		{[]uint8{0, 0, 0, 0, 15}, image[:256], image[256:]},
	} {
		d := with(t, image)
		want(t, "Write", d.Write(0, a), api.OK)
		want(t, "Write", d.Write(1, x), api.OK)
		want(t, "Write", d.Write(0, b), api.OK)
		want(t, "Write", d.Write(0, c), api.OK)
		off(t, d, s.picks...)
		wantImage(t, d, slices.Concat(s.zero, s.first))
		want(t, "Restart", d.Restart(), api.OK)
		wantBlock(t, d, 0, s.zero)
		wantBlock(t, d, 1, s.first)
		wantPending(t, d)
	}
}

// P3.3: all calls without the power.
func TestWithoutPower(t *testing.T) {
	d := with(t, imageOf(2))
	want(t, "Write", d.Write(1, full(3)), api.OK)
	off(t, d, 5)
	image := d.Image()
	before := faceOf(d)
	for _, i := range []int{0, 1, 2, -1, math.MaxInt, math.MinInt} {
		if b, e := d.Read(i); b != nil || e != api.ErrPower {
			t.Fatalf("Read(%d) without the power: %v, %d", i, b, e)
		}
		want(t, "Write", d.Write(i, full(9)), api.ErrPower)
		want(t, "Write", d.Write(i, nil), api.ErrPower)
		want(t, "Arm", d.Arm(i, 15), api.ErrPower)
	}
	want(t, "Flush", d.Flush(), api.ErrPower)
	want(t, "Crash", d.Crash(), api.ErrPower)
	want(t, "Crash", d.Crash(15, 15), api.ErrPower)
	if !faceOf(d).equal(before) {
		t.Fatal("a call without the power has changed the disk")
	}
	if d.On() || d.Len() != 2 || d.Ops() != 1 {
		t.Fatalf("On %v, Len %d, Ops %d", d.On(), d.Len(), d.Ops())
	}
	wantImage(t, d, image)
	c := d.Clone()
	if !faceOf(c).equal(before) {
		t.Fatal("a clone without the power is another one")
	}

	want(t, "Restart", d.Restart(), api.OK)
	if !d.On() || c.On() {
		t.Fatal("Restart lets the power come back to the one disk")
	}
	want(t, "Restart twice", d.Restart(), api.ErrBusy)
	wantImage(t, d, image)
	wantOps(t, d, 1)
	wantPending(t, d)
	// Nothing of what Arm was told without the power is armed.
	for range 4 {
		want(t, "Flush", d.Flush(), api.OK)
	}
}

// P3.3: Restart where the power is there.
func TestBusy(t *testing.T) {
	d := with(t, imageOf(1))
	want(t, "Write", d.Write(0, full(1)), api.OK)
	want(t, "Arm", d.Arm(2), api.OK)
	before := faceOf(d)
	want(t, "Restart", d.Restart(), api.ErrBusy)
	if !faceOf(d).equal(before) {
		t.Fatal("Restart has changed a disk that is on")
	}
	want(t, "Flush", d.Flush(), api.OK)
	want(t, "what was armed still is", d.Flush(), api.ErrPower)
}

// P3.3: an armed Write is pending as the last one, an armed Flush does nothing; then the picks count.
func TestArmedOperation(t *testing.T) {
	image := imageOf(2)
	a, b := full(30), full(40)
	do := map[string]func(d *disk.Disk) api.Errno{
		"Write": func(d *disk.Disk) api.Errno { return d.Write(0, b) },
		"Flush": func(d *disk.Disk) api.Errno { return d.Flush() },
	}
	for _, s := range []struct {
		call  string
		picks []uint8
		want  []byte
	}{
		{"Write", nil, image[:256]},
		{"Write", []uint8{15}, a},
		{"Write", []uint8{15, 15}, b},
		{"Write", []uint8{0, 15}, b},
		{"Write", []uint8{1, 4}, mix(a, image[:256], b, image[:256])},
		{"Write", []uint8{255, 0xf2, 255}, mix(a, b, a, a)},
		{"Flush", nil, image[:256]},
		{"Flush", []uint8{0, 15}, image[:256]},
		{"Flush", []uint8{15}, a},
		{"Flush", []uint8{6, 15, 15}, mix(image[:256], a, a, image[:256])},
	} {
		d := with(t, image)
		want(t, "Write", d.Write(0, a), api.OK)
		want(t, "Arm", d.Arm(1, s.picks...), api.OK)
		want(t, s.call, do[s.call](d), api.ErrPower)
		if d.On() {
			t.Fatalf("%s: the power is there", s.call)
		}
		wantPending(t, d)
		wantOps(t, d, 2)
		wantImage(t, d, slices.Concat(s.want, image[256:]))
		want(t, "Restart", d.Restart(), api.OK)
		wantBlock(t, d, 0, s.want)
		// It is armed no more.
		for range 4 {
			want(t, s.call, do[s.call](d), api.OK)
		}
		wantOps(t, d, 6)
	}
}

// P3.3: it is the n-th operation; Reads and calls with an error are none.
func TestArmedCount(t *testing.T) {
	for n := 1; n <= 6; n++ {
		d := fresh(t, 2)
		want(t, "Flush", d.Flush(), api.OK)
		want(t, "Arm", d.Arm(n, 15, 15, 15, 15, 15, 15), api.OK)
		for k := 1; k < n; k++ {
			wantBlock(t, d, 1, make([]byte, 256))
			want(t, "Write", d.Write(2, full(1)), api.ErrPlace)
			want(t, "Write", d.Write(1, nil), api.ErrBlock)
			want(t, "Restart", d.Restart(), api.ErrBusy)
			if k%2 == 1 {
				want(t, "Write", d.Write(0, full(byte(k))), api.OK)
			} else {
				want(t, "Flush", d.Flush(), api.OK)
			}
			wantOps(t, d, int64(1+k))
		}
		want(t, "the armed Write", d.Write(0, full(200)), api.ErrPower)
		wantOps(t, d, int64(1+n))
		wantImage(t, d, slices.Concat(full(200), make([]byte, 256)))
	}
}

// P3.3: Arm once more ahead of its operation, with 0, below 0, and very late.
func TestArmAgain(t *testing.T) {
	a, none := full(90), make([]byte, 256)

	d := fresh(t, 1)
	want(t, "Arm", d.Arm(1, 15), api.OK)
	want(t, "Arm", d.Arm(2, 1, 2), api.OK)
	want(t, "Write", d.Write(0, a), api.OK)
	want(t, "Write", d.Write(0, a), api.ErrPower)
	wantImage(t, d, mix(a, a, none, none))

	d = fresh(t, 1)
	want(t, "Arm", d.Arm(3, 15), api.OK)
	want(t, "Flush", d.Flush(), api.OK)
	want(t, "Arm, which counts from then on", d.Arm(2, 4), api.OK)
	want(t, "Flush", d.Flush(), api.OK)
	want(t, "Write", d.Write(0, a), api.ErrPower)
	wantImage(t, d, mix(none, none, a, none))

	d = fresh(t, 1)
	want(t, "Arm", d.Arm(1, 15), api.OK)
	want(t, "Arm with 0", d.Arm(0, 15), api.OK)
	want(t, "Arm with 0 twice", d.Arm(0), api.OK)
	for range 4 {
		want(t, "Write", d.Write(0, a), api.OK)
	}

	d = fresh(t, 1)
	want(t, "Arm", d.Arm(2, 8, 2), api.OK)
	for _, n := range []int{-1, -2, math.MinInt} {
		want(t, "Arm below 0", d.Arm(n, 15), api.ErrArg)
	}
	want(t, "Write", d.Write(0, a), api.OK)
	want(t, "Arm below 0", d.Arm(-1), api.ErrArg)
	want(t, "what was armed still is", d.Write(0, a), api.ErrPower)
	wantImage(t, d, mix(none, a, none, a))

	d = fresh(t, 1)
	want(t, "Arm below 0", d.Arm(-1, 15), api.ErrArg)
	want(t, "Arm late", d.Arm(math.MaxInt, 15), api.OK)
	for range 9 {
		want(t, "Write", d.Write(0, a), api.OK)
	}
	if !d.On() {
		t.Fatal("the power is gone")
	}
	wantOps(t, d, 9)
}

// P3.3: what is armed is no operation, and changes nothing till then; a Crash takes it away.
func TestCrashDisarms(t *testing.T) {
	a := full(5)
	d := fresh(t, 1)
	want(t, "Write", d.Write(0, a), api.OK)
	before := faceOf(d)
	want(t, "Arm", d.Arm(1, 15, 15), api.OK)
	if !faceOf(d).equal(before) {
		t.Fatal("Arm has changed what the disk tells")
	}
	off(t, d)
	wantImage(t, d, make([]byte, 256))
	want(t, "Crash twice", d.Crash(15), api.ErrPower)
	want(t, "Restart", d.Restart(), api.OK)
	for range 3 {
		want(t, "Write", d.Write(0, a), api.OK)
	}
	want(t, "Flush", d.Flush(), api.OK)
	wantImage(t, d, a)
	off(t, d)
	want(t, "Restart", d.Restart(), api.OK)
	wantBlock(t, d, 0, a)
}

// writeSome writes at most so many blocks of a disk, and tells what it wrote.
func writeSome(t *testing.T, r *dice, d *disk.Disk, most int) []waiting {
	t.Helper()
	var out []waiting
	for range r.below(most + 1) {
		w := waiting{r.below(d.Len()), string(r.bytes(256))}
		want(t, "Write", d.Write(w.block, []byte(w.bytes)), api.OK)
		out = append(out, w)
	}
	return out
}

// P3.4: each sector behind a Crash is what it was there, or what some pending write of its block had there.
func TestSectorBySector(t *testing.T) {
	r := dice(34)
	for range 300 {
		n := 1 + r.below(4)
		image := r.bytes(n * 256)
		d := with(t, image)
		wrote := writeSome(t, &r, d, 9)
		off(t, d, r.bytes(r.below(12))...)
		got := d.Image()
		for at := 0; at < len(got); at += 64 {
			s := got[at : at+64]
			found := bytes.Equal(s, image[at:at+64])
			for _, w := range wrote {
				found = found || w.block == at/256 && w.bytes[at%256:at%256+64] == string(s)
			}
			if !found {
				t.Fatalf("the sector at %d is nobody's", at)
			}
		}
	}
}

// P3.5: what was flushed stays, and a Crash without picks leaves the medium as it is.
func TestFlushedStays(t *testing.T) {
	r := dice(35)
	for range 100 {
		d := with(t, r.bytes(3*256))
		writeSome(t, &r, d, 9)
		want(t, "Flush", d.Flush(), api.OK)
		image := d.Image()
		c := d.Clone()
		off(t, c, r.bytes(r.below(12))...)
		wantImage(t, c, image)
		writeSome(t, &r, d, 9)
		off(t, d)
		wantImage(t, d, image)
		want(t, "Restart", d.Restart(), api.OK)
		off(t, d, 15, 15, 15, 15)
		wantImage(t, d, image)
	}
}

// P3.7: a Crash whose picks are all 15 leaves what a Flush would have left.
func TestAllOfIt(t *testing.T) {
	r := dice(37)
	for range 100 {
		d := with(t, r.bytes(3*256))
		many := len(writeSome(t, &r, d, 9))
		c := d.Clone()
		want(t, "Flush", d.Flush(), api.OK)
		off(t, c, bytes.Repeat([]byte{15}, many+r.below(3))...)
		wantImage(t, c, d.Image())
	}
}
