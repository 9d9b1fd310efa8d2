package super_test

import (
	"testing"

	"attic/api"
	"attic/disk"
	"attic/super"
)

// choose holds an answer of Choose against a super, or against ErrCorrupt where it is the empty one.
func choose(t *testing.T, what string, a, b []byte, want api.Super) {
	t.Helper()
	e := api.OK
	if want == (api.Super{}) {
		e = api.ErrCorrupt
	}
	if got, f := super.Choose(a, b); got != want || f != e {
		t.Errorf("Choose of %s: %v, error %d, not %v, error %d", what, got, int(f), want, int(e))
	}
}

// P5.3: of two, either of which is the newer.
func TestChooseNewer(t *testing.T) {
	even, odd := []int64{2, 4, 256, most - 2, most}, []int64{1, 3, 5, 255, 257, most - 1}
	for _, x := range even {
		for _, y := range odd {
			// The greater Head is the older one's, so that nothing but the Epoch tells.
			s := api.Super{Epoch: x, G: example, Head: most - x}
			u := api.Super{Epoch: y, G: good[3], Head: most - y}
			want := s
			if y > x {
				want = u
			}
			choose(t, "two supers", bytesOf(t, s), bytesOf(t, u), want)
			choose(t, "two supers, each in the other's slot", bytesOf(t, u), bytesOf(t, s), api.Super{})
		}
	}
}

// P5.3: of one and of none, in its slot and in the wrong one.
func TestChooseOne(t *testing.T) {
	for _, s := range several() {
		b := bytesOf(t, s)
		torn := bytesOf(t, s)
		torn[40] = 1
		for _, none := range [][]byte{nil, {}, make([]byte, 256), b[:255], torn} {
			if s.Epoch%2 == 0 {
				choose(t, "a super in slot 0", b, none, s)
				choose(t, "a super in the wrong slot", none, b, api.Super{})
			} else {
				choose(t, "a super in slot 1", none, b, s)
				choose(t, "a super in the wrong slot", b, none, api.Super{})
			}
			choose(t, "none", none, none, api.Super{})
		}
		choose(t, "the same super in both slots", b, b, s)
	}
}

// P5.3: one in the wrong slot does not count, however new it is.
func TestChooseWrongSlot(t *testing.T) {
	first, second := api.Super{Epoch: 2, G: example, Head: 32}, api.Super{Epoch: 3, G: example, Head: 40}
	evenNew, oddNew := api.Super{Epoch: most, G: example, Head: 50}, api.Super{Epoch: most - 1, G: example, Head: 50}
	choose(t, "2, and a newer one in the wrong slot", bytesOf(t, first), bytesOf(t, evenNew), first)
	choose(t, "3, and a newer one in the wrong slot", bytesOf(t, oddNew), bytesOf(t, second), second)
}

// P5.3: one that may not be does not count, though its sum is right.
func TestChooseWrongFields(t *testing.T) {
	counts := plain().block()
	for _, f := range []func(n *numbers){
		func(n *numbers) { n.epoch = most + 1 },
		func(n *numbers) { n.epoch = 1<<63 + 3 },
		func(n *numbers) { n.epoch, n.head = 3, most+1 },
		func(n *numbers) { n.epoch, n.log = 3, 7 },
	} {
		n := plain()
		f(&n)
		choose(t, "a super and one that may not be", counts, n.block(), api.Super{Epoch: 2, G: example, Head: 32})
		choose(t, "one that may not be and none", n.block(), n.block(), api.Super{})
	}
}

// supers is a disk of the two blocks alone, with a super in its slot, and in the other one another super, or noughts.
func supers(t *testing.T, s, other api.Super) *disk.Disk {
	t.Helper()
	d, e := disk.New(2)
	if e != api.OK {
		t.Fatalf("New: error %d", int(e))
	}
	put(t, d, s)
	if other != (api.Super{}) {
		put(t, d, other)
	}
	if e := d.Flush(); e != api.OK {
		t.Fatalf("Flush: error %d", int(e))
	}
	return d
}

func put(t *testing.T, d *disk.Disk, s api.Super) {
	t.Helper()
	if e := d.Write(super.Slot(s), bytesOf(t, s)); e != api.OK {
		t.Fatalf("Write of %v: error %d", s, int(e))
	}
}

// chosen is what Choose tells of a disk.
func chosen(t *testing.T, d *disk.Disk) api.Super {
	t.Helper()
	image := d.Image()
	s, e := super.Choose(image[:256], image[256:])
	if e != api.OK {
		t.Fatalf("Choose: error %d of the disk %v", int(e), image)
	}
	return s
}

// goOn writes Next's bytes on a disk again and again, each time with each choice of sectors that reach it.
func goOn(t *testing.T, d *disk.Disk, depth int) {
	t.Helper()
	old := chosen(t, d)
	if depth == 0 || old.Epoch == most {
		return
	}
	next := nextOf(t, old, old.Head+(most-old.Head)/2)
	for pick := range uint8(16) {
		c := d.Clone()
		put(t, c, next)
		if e := c.Crash(pick); e != api.OK {
			t.Fatalf("Crash: error %d", int(e))
		}
		if e := c.Restart(); e != api.OK {
			t.Fatalf("Restart: error %d", int(e))
		}
		got := chosen(t, c)
		if got != old && got != next {
			t.Fatalf("%v over %v with the sectors %d: %v", next, old, pick, got)
		}
		if pick == 15 && got != next || pick == 0 && got != old {
			t.Fatalf("%v over %v with all sectors or none, %d: %v", next, old, pick, got)
		}
		goOn(t, c, depth-1)
	}
}

// P5.5: the old one or the new one, over noughts and over a super that counts, as often as the power goes.
func TestOldOrNew(t *testing.T) {
	for _, s := range []api.Super{
		{Epoch: 2, G: example, Head: 32},
		{Epoch: 3, G: example, Head: 0},
		{Epoch: 256, G: good[3], Head: 1 << 32},
		{Epoch: most - 1, G: good[1], Head: most},
		{Epoch: most - 2, G: good[2], Head: most - 1},
	} {
		goOn(t, supers(t, s, api.Super{}), 2)
		for _, less := range []int64{1, 3, 255} {
			if s.Epoch > less {
				other := api.Super{Epoch: s.Epoch - less, G: good[3], Head: s.Head / 2}
				goOn(t, supers(t, s, other), 2)
			}
		}
	}
}

// P5.5 and P5.6 from a disk's first super on: what is told never becomes older.
func TestByTurns(t *testing.T) {
	s, e := super.First(example)
	if e != api.OK {
		t.Fatalf("First: error %d", int(e))
	}
	d := supers(t, s, api.Super{})
	chance := dice(9)
	for range 500 {
		next := nextOf(t, s, s.Head+int64(chance.from(0, 64)))
		put(t, d, next)
		if e := d.Crash(uint8(chance.from(0, 15))); e != api.OK {
			t.Fatalf("Crash: error %d", int(e))
		}
		if e := d.Restart(); e != api.OK {
			t.Fatalf("Restart: error %d", int(e))
		}
		got := chosen(t, d)
		if got != s && got != next {
			t.Fatalf("%v behind %v: %v", next, s, got)
		}
		s = got
	}
	if s.Epoch < 100 {
		t.Errorf("only %d turns", s.Epoch)
	}
}

// R6: the same bytes, asked again, are the same super.
func TestChooseAgain(t *testing.T) {
	a, b := bytesOf(t, api.Super{Epoch: 4, G: example, Head: 36}), bytesOf(t, api.Super{Epoch: 3, G: example, Head: 35})
	for range 3 {
		choose(t, "two supers", a, b, api.Super{Epoch: 4, G: example, Head: 36})
	}
}
