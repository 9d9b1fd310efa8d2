package disk_test

import (
	"bytes"
	"math"
	"slices"
	"testing"

	"attic/api"
	"attic/disk"
)

// paper is the document's disk put another way: a sector is found by looking back through all that was ever written.
type paper struct {
	blocks  int
	log     []entry // what reached the medium, as sectors
	waiting []waiting
	off     bool
	armed   int
	picks   string
	ops     int64
}

type entry struct {
	block, sector int
	bytes         string
}

func (p *paper) sector(i, k int) string {
	for n := len(p.log) - 1; n >= 0; n-- {
		if p.log[n].block == i && p.log[n].sector == k {
			return p.log[n].bytes
		}
	}
	return string(make([]byte, 64))
}

func (p *paper) image() string {
	var out string
	for n := range 4 * p.blocks {
		out += p.sector(n/4, n%4)
	}
	return out
}

func (p *paper) read(i int) string {
	for n := len(p.waiting) - 1; n >= 0; n-- {
		if p.waiting[n].block == i {
			return p.waiting[n].bytes
		}
	}
	return p.sector(i, 0) + p.sector(i, 1) + p.sector(i, 2) + p.sector(i, 3)
}

func (p *paper) settle(picks string) {
	for n, w := range p.waiting {
		if n >= len(picks) {
			break
		}
		for k, bit := range []byte{1, 2, 4, 8} {
			if picks[n]&bit != 0 {
				p.log = append(p.log, entry{w.block, k, w.bytes[64*k : 64*k+64]})
			}
		}
	}
	p.waiting = nil
}

func (p *paper) crash(picks string) api.Errno {
	if p.off {
		return api.ErrPower
	}
	p.settle(picks)
	p.off, p.armed = true, 0
	return api.OK
}

// struck tells whether the power went in the midst of an operation.
func (p *paper) struck() bool {
	p.ops++
	p.armed--
	if p.armed != 0 {
		p.armed = max(p.armed, 0)
		return false
	}
	p.crash(p.picks)
	return true
}

func (p *paper) write(i int, b string) api.Errno {
	if p.off {
		return api.ErrPower
	}
	if i < 0 || i >= p.blocks {
		return api.ErrPlace
	}
	if len(b) != 256 {
		return api.ErrBlock
	}
	p.waiting = append(p.waiting, waiting{i, b})
	if p.struck() {
		return api.ErrPower
	}
	return api.OK
}

func (p *paper) flush() api.Errno {
	if p.off || p.struck() {
		return api.ErrPower
	}
	p.settle(string(bytes.Repeat([]byte{15}, len(p.waiting))))
	return api.OK
}

func (p *paper) arm(n int, picks string) api.Errno {
	if p.off {
		return api.ErrPower
	}
	if n < 0 {
		return api.ErrArg
	}
	p.armed, p.picks = n, picks
	return api.OK
}

func (p *paper) restart() api.Errno {
	if !p.off {
		return api.ErrBusy
	}
	p.off = false
	return api.OK
}

func (p *paper) clone() *paper {
	c := *p
	c.log, c.waiting = slices.Clone(p.log), slices.Clone(p.waiting)
	return &c
}

func (p *paper) face() face {
	f := face{size: p.blocks, image: p.image(), on: !p.off, ops: p.ops, pending: p.waiting}
	for i := range p.blocks {
		if p.off {
			f.reads, f.errors = append(f.reads, ""), append(f.errors, api.ErrPower)
		} else {
			f.reads, f.errors = append(f.reads, p.read(i)), append(f.errors, api.OK)
		}
	}
	return f
}

// move does one thing to both, and answers both errors.
func move(r *dice, d *disk.Disk, p *paper) (got, want api.Errno) {
	switch r.below(12) {
	case 0:
		return d.Flush(), p.flush()
	case 1:
		picks := r.bytes(r.below(6))
		return d.Crash(picks...), p.crash(string(picks))
	case 2, 3:
		return d.Restart(), p.restart()
	case 4:
		n, picks := r.below(7)-1, r.bytes(r.below(6))
		return d.Arm(n, picks...), p.arm(n, string(picks))
	case 5:
		i, b := r.below(p.blocks+2)-1, r.bytes(255+r.below(3))
		return d.Write(i, b), p.write(i, string(b))
	default:
		i, b := r.below(p.blocks), r.bytes(256)
		return d.Write(i, b), p.write(i, string(b))
	}
}

// P3.1 to P3.3: whatever is called, with clones that go their own ways.
func TestAgainstPaper(t *testing.T) {
	r := dice(33)
	for range 60 {
		n := 1 + r.below(3)
		disks, papers := []*disk.Disk{fresh(t, n)}, []*paper{{blocks: n}}
		for range 60 {
			k := r.below(len(disks))
			if got, want := move(&r, disks[k], papers[k]); got != want {
				t.Fatalf("error %d, not %d", got, want)
			}
			if len(disks) < 4 && r.below(8) == 0 {
				disks, papers = append(disks, disks[k].Clone()), append(papers, papers[k].clone())
			}
			for k, d := range disks {
				if got, want := faceOf(d), papers[k].face(); !got.equal(want) {
					t.Fatalf("the disk %d is another one: Ops %d and %d, On %v and %v", k, got.ops, want.ops, got.on, want.on)
				}
			}
		}
	}
}

// P3.1: a Clone has what is armed, too, and each goes its own way.
func TestClone(t *testing.T) {
	image := imageOf(2)
	a, b := full(15), full(25)
	d := with(t, image)
	want(t, "Write", d.Write(0, a), api.OK)
	want(t, "Arm", d.Arm(3, 15, 15, 15, 15), api.OK)
	want(t, "Write", d.Write(1, a), api.OK)
	c := d.Clone()
	if c == d || !faceOf(c).equal(faceOf(d)) {
		t.Fatal("a clone is another one")
	}

	want(t, "Write", d.Write(0, b), api.OK)
	wantBlock(t, c, 0, a)
	wantPending(t, c, waiting{0, string(a)}, waiting{1, string(a)})
	wantOps(t, c, 2)
	want(t, "Write", c.Write(1, b), api.OK)
	wantPending(t, d, waiting{0, string(a)}, waiting{1, string(a)}, waiting{0, string(b)})
	wantPending(t, c, waiting{0, string(a)}, waiting{1, string(a)}, waiting{1, string(b)})

	want(t, "Flush", d.Flush(), api.ErrPower)
	wantImage(t, d, slices.Concat(b, a))
	if !c.On() {
		t.Fatal("the clone's power is gone with the other one's")
	}
	wantImage(t, c, image)
	want(t, "what is armed of the clone", c.Write(0, b), api.ErrPower)
	wantImage(t, c, slices.Concat(b, b))
	wantImage(t, d, slices.Concat(b, a))
}

// P3.1: what is armed or not of a disk is nothing to its clone.
func TestCloneArmsAlone(t *testing.T) {
	a, none := full(35), make([]byte, 256)
	d := fresh(t, 1)
	want(t, "Arm", d.Arm(1, 3), api.OK)
	c, free := d.Clone(), d.Clone()
	want(t, "Arm with 0", free.Arm(0), api.OK)
	want(t, "Arm", c.Arm(2, 4, 8), api.OK)
	want(t, "Write", free.Write(0, a), api.OK)
	want(t, "Write", c.Write(0, a), api.OK)
	want(t, "Write", d.Write(0, a), api.ErrPower)
	want(t, "Write", c.Write(0, a), api.ErrPower)
	wantImage(t, d, mix(a, a, none, none))
	wantImage(t, c, mix(none, none, a, a))
	want(t, "Flush", free.Flush(), api.OK)
	wantImage(t, free, a)
}

// R3: bytes that are handed in are not written to, and may be changed by their owner afterwards.
func TestHandedIn(t *testing.T) {
	image := imageOf(2)
	first := slices.Clone(image)
	d := with(t, image)
	clear(image)
	wantImage(t, d, first)
	wantBlock(t, d, 1, first[256:])

	b := full(40)
	want(t, "Write", d.Write(0, b), api.OK)
	clear(b)
	wantBlock(t, d, 0, full(40))
	wantPending(t, d, waiting{0, string(full(40))})
	copy(b, full(60))
	want(t, "Write", d.Write(1, b), api.OK)
	copy(b, full(80))
	wantBlock(t, d, 0, full(40))
	wantBlock(t, d, 1, full(60))

	picks := []uint8{15, 3, 9}
	want(t, "Arm", d.Arm(1, picks...), api.OK)
	clear(picks)
	want(t, "Flush", d.Flush(), api.ErrPower)
	if !bytes.Equal(b, full(80)) || !bytes.Equal(picks, []uint8{0, 0, 0}) || !bytes.Equal(image, make([]byte, 512)) {
		t.Fatal("what was handed in was written to")
	}
	wantImage(t, d, slices.Concat(full(40), mix(full(60), full(60), first[256:], first[256:])))
}

// R3: neither what stands behind a slice nor the slice itself is written to.
func TestHandedInStays(t *testing.T) {
	room := bytes.Repeat([]byte{77}, 4*256)
	d := with(t, room[:256])
	want(t, "Write", d.Write(0, room[256:512]), api.OK)
	want(t, "Write", d.Write(0, full(3)), api.OK)
	picks := bytes.Repeat([]byte{77}, 8)
	c := d.Clone()
	want(t, "Arm", c.Arm(1, picks[:2]...), api.OK)
	want(t, "Write", c.Write(0, full(4)), api.ErrPower)
	off(t, d, picks[:2]...)
	if !bytes.Equal(room, bytes.Repeat([]byte{77}, 4*256)) || !bytes.Equal(picks, bytes.Repeat([]byte{77}, 8)) {
		t.Fatal("what was handed in was written to")
	}
}

// R3: answers may be changed by whoever got them.
func TestAnswers(t *testing.T) {
	image := imageOf(2)
	d := with(t, image)
	want(t, "Write", d.Write(0, full(40)), api.OK)
	before := faceOf(d)
	for i := range 2 {
		b, _ := d.Read(i)
		clear(b)
		clear(b[:cap(b)])
	}
	clear(d.Image())
	for _, b := range d.Pending() {
		clear(b)
	}
	seq := d.Pending()
	for range 2 {
		for _, b := range seq {
			if !bytes.Equal(b, full(40)) {
				t.Fatal("a range has what the one ahead of it was given")
			}
			clear(b)
		}
	}
	if !faceOf(d).equal(before) {
		t.Fatal("the disk has changed by what was done to its answers")
	}
	wantBlock(t, d, 0, full(40))
	c := d.Clone()
	for _, b := range c.Pending() {
		clear(b)
	}
	want(t, "Flush", c.Flush(), api.OK)
	if !faceOf(d).equal(before) {
		t.Fatal("the disk has changed by what was done to its clone")
	}
	got := c.Image()
	off(t, d, 15)
	wantImage(t, c, got)
	one, two := d.Image(), d.Image()
	clear(one)
	wantImage(t, d, two)
}

// R3: a range over Pending that stops early, is done again, or lies within another one.
func TestPendingRanges(t *testing.T) {
	d := fresh(t, 4)
	var all []waiting
	for i := range 4 {
		w := waiting{3 - i, string(full(byte(i)))}
		want(t, "Write", d.Write(w.block, []byte(w.bytes)), api.OK)
		all = append(all, w)
	}
	seq := d.Pending()
	for most := 1; most <= 4; most++ {
		var got []waiting
		for i, b := range seq {
			got = append(got, waiting{i, string(b)})
			if len(got) == most {
				break
			}
		}
		if !slices.Equal(got, all[:most]) {
			t.Fatalf("a range that stops behind %d tells %v", most, got)
		}
	}
	calls := 0
	seq(func(int, []byte) bool { calls++; return calls < 2 })
	if calls != 2 {
		t.Fatalf("a range that is to stop behind 2 goes on: %d", calls)
	}
	var pairs int
	for i, b := range seq {
		k := 0
		for j, c := range seq {
			if (waiting{j, string(c)}) != all[k] {
				t.Fatal("a range within another one tells something else")
			}
			k++
			pairs++
		}
		if (waiting{i, string(b)}) != all[3-i] {
			t.Fatal("a range about another one tells something else")
		}
	}
	if pairs != 16 {
		t.Fatalf("%d pairs", pairs)
	}
}

// R3: Pending tells what was there when it was asked for, whatever becomes of its disk.
func TestPendingAsAsked(t *testing.T) {
	a, b, c := full(1), full(11), full(21)
	for name, change := range map[string]func(d *disk.Disk) api.Errno{
		"Write": func(d *disk.Disk) api.Errno { return d.Write(0, c) },
		"Flush": func(d *disk.Disk) api.Errno { return d.Flush() },
		"Crash": func(d *disk.Disk) api.Errno { return d.Crash(15) },
		"Flush and Write": func(d *disk.Disk) api.Errno {
			d.Flush()
			d.Write(1, c)
			return d.Write(1, c)
		},
		"Crash and Write": func(d *disk.Disk) api.Errno {
			d.Crash(3)
			d.Restart()
			d.Write(1, c)
			return d.Write(1, c)
		},
	} {
		d := fresh(t, 2)
		empty := d.Pending()
		want(t, "Write", d.Write(0, a), api.OK)
		want(t, "Write", d.Write(1, b), api.OK)
		seq := d.Pending()
		want(t, name, change(d), api.OK)
		for range 2 {
			var got []waiting
			for i, b := range seq {
				got = append(got, waiting{i, string(b)})
			}
			if !slices.Equal(got, []waiting{{0, string(a)}, {1, string(b)}}) {
				t.Fatalf("behind %s the range tells %d others", name, len(got))
			}
		}
		for range empty {
			t.Fatalf("behind %s a range over nothing tells something", name)
		}
	}
}

// R3: the disk is written to, flushed and crashed in the midst of a range over what is pending.
func TestPendingMidst(t *testing.T) {
	d := fresh(t, 2)
	want(t, "Write", d.Write(0, full(1)), api.OK)
	want(t, "Write", d.Write(1, full(2)), api.OK)
	want(t, "Write", d.Write(0, full(3)), api.OK)
	k := 0
	for i, b := range d.Pending() {
		if i != k%2 || !bytes.Equal(b, full(byte(k+1))) {
			t.Fatalf("the write %d is of %d", k, i)
		}
		k++
		switch k {
		case 1:
			want(t, "Write", d.Write(1, full(9)), api.OK)
		case 2:
			want(t, "Flush", d.Flush(), api.OK)
		case 3:
			off(t, d)
		}
	}
	if k != 3 {
		t.Fatalf("%d writes", k)
	}
	wantImage(t, d, slices.Concat(full(3), full(9)))
}

// R5: a disk that no call made.
func TestNotMade(t *testing.T) {
	zero := &disk.Disk{}
	for _, d := range []*disk.Disk{nil, zero} {
		for _, i := range []int{0, 1, -1, math.MaxInt, math.MinInt} {
			if b, e := d.Read(i); b != nil || e != api.ErrMade {
				t.Errorf("Read(%d): %v, %d", i, b, e)
			}
			want(t, "Write", d.Write(i, full(1)), api.ErrMade)
			want(t, "Write", d.Write(i, nil), api.ErrMade)
			want(t, "Arm", d.Arm(i, 15), api.ErrMade)
		}
		want(t, "Flush", d.Flush(), api.ErrMade)
		want(t, "Crash", d.Crash(), api.ErrMade)
		want(t, "Crash", d.Crash(1, 2, 3), api.ErrMade)
		want(t, "Restart", d.Restart(), api.ErrMade)
		if d.Len() != 0 || d.Image() != nil || d.Ops() != 0 || d.On() || d.Clone() != nil {
			t.Errorf("Len %d, Image %v, Ops %d, On %v, Clone %v", d.Len(), d.Image(), d.Ops(), d.On(), d.Clone())
		}
		for range 2 {
			for i, b := range d.Pending() {
				t.Errorf("Pending tells %d, %v", i, b)
			}
		}
	}
}
