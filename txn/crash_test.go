package txn_test

import (
	"slices"
	"testing"

	"attic/api"
	"attic/disk"
	"attic/txn"
)

// operations is how many operations of a disk something does that is not to err.
func operations(t *testing.T, d *disk.Disk, do func(d *disk.Disk) api.Errno) int {
	t.Helper()
	d = d.Clone()
	before := d.Ops()
	want(t, "what is to be cut off later", do(d), api.OK)
	return int(d.Ops() - before)
}

// picksFor are choices of the sectors of so many writes: none, all, the same ones of each, all of one and of all but one, and any.
func picksFor(r dice, writes int) [][]uint8 {
	l := [][]uint8{nil}
	for _, pick := range []uint8{15, 1, 2, 4, 8, 5, 10, 7, 14} {
		l = append(l, slices.Repeat([]uint8{pick}, writes))
	}
	for w := range writes {
		one, rest := make([]uint8, writes), slices.Repeat([]uint8{15}, writes)
		one[w], rest[w] = 15, 0
		l = append(l, one, rest)
	}
	for range 3 {
		l = append(l, r.bytes(writes))
	}
	return l
}

// fewPicks are none, all, and any.
func fewPicks(r dice, writes int) [][]uint8 {
	return [][]uint8{nil, slices.Repeat([]uint8{15}, writes), r.bytes(writes)}
}

// used is a store that has changed before, some of it pending, and its disk.
func used(t *testing.T) (*disk.Disk, *txn.Store) {
	t.Helper()
	roll := dice(77)
	d, s := fresh(t, small)
	commits(t, s, edit{2, 0, roll.bytes(256)}, edit{12, 5, roll.bytes(90)})
	want(t, "Checkpoint", s.Checkpoint(), api.OK)
	s = crashed(t, d, 15, 3)
	commits(t, s, edit{2, 100, roll.bytes(60)}, edit{11, 0, roll.bytes(256)})
	commits(t, s, edit{11, 200, roll.bytes(10)}, edit{17, 250, roll.bytes(6)}, edit{15, 44, roll.bytes(44)})
	return d, s
}

// scene is what stands ahead of a call under which the power goes: that Commit, or, of no edits, a Checkpoint.
type scene struct {
	name  string
	play  func(t *testing.T) (*disk.Disk, *txn.Store)
	edits []edit
}

// logged is a used store whose log holds so many records more.
func logged(many int) func(t *testing.T) (*disk.Disk, *txn.Store) {
	return func(t *testing.T) (*disk.Disk, *txn.Store) {
		d, s := used(t)
		for n := range many / 2 {
			commits(t, s, edit{13, 3 * n, []byte{byte(n + 1)}})
		}
		return d, s
	}
}

func scenes() []scene {
	roll := dice(5)
	empty := func(t *testing.T) (*disk.Disk, *txn.Store) { return fresh(t, small) }
	mixed := []edit{{2, 3, roll.bytes(100)}, {11, 190, roll.bytes(30)}, {17, 0, roll.bytes(256)}}
	return []scene{
		{"the first Commit", empty, []edit{{2, 0, []byte("ab")}}},
		{"a small one", used, []edit{{11, 201, []byte{1, 2, 3}}}},
		{"some blocks", used, mixed},
		{"a lap less one", used, append(full(9, 2, 11, 13, 14, 16), edit{17, 0, []byte{99}})},
		{"round the log's end", logged(6), mixed},
		{"a Checkpoint ahead", logged(12), mixed},
		{"a Checkpoint", used, nil},
		{"a Checkpoint of a long log", logged(10), nil},
	}
}

// begin lets a scene's edits be written, and tells its call.
func (x scene) begin(t *testing.T, s *txn.Store) func() api.Errno {
	t.Helper()
	if x.edits == nil {
		return s.Checkpoint
	}
	begins(t, s, x.edits...)
	return s.Commit
}

// measure is how many operations a scene's call does, and how many writes may be pending in it.
func (x scene) measure(t *testing.T) (ops, writes int) {
	t.Helper()
	d, s := x.play(t)
	writes = len(faceOf(d).pending)
	call := x.begin(t, s)
	before := d.Ops()
	want(t, x.name, call(), api.OK)
	ops = int(d.Ops() - before)
	return ops, writes + ops
}

// dead holds that each call of a store under which the power went says so.
func dead(t *testing.T, s *txn.Store) {
	t.Helper()
	want(t, "Begin", s.Begin(), api.ErrPower)
	want(t, "Abort", s.Abort(), api.ErrPower)
	want(t, "Commit", s.Commit(), api.ErrPower)
	want(t, "Checkpoint", s.Checkpoint(), api.ErrPower)
	for _, block := range []int{-1, 0, 2, 17, 18} {
		want(t, "Write", s.Write(block, 0, []byte{1}), api.ErrPower)
		want(t, "Write", s.Write(block, -1, nil), api.ErrPower)
		refusesRead(t, s, block, 0, 1, api.ErrPower)
		refusesRead(t, s, block, 256, 1, api.ErrPower)
	}
}

// strike lets the power go in the n-th operation of a scene's call, or behind it, and answers the disk with the power back,
// and the states that may be there.
func (x scene) strike(t *testing.T, n int, picks ...uint8) (*disk.Disk, []string) {
	t.Helper()
	d, s := x.play(t)
	old := state(t, s)
	now := made(small, old, x.edits...)
	call := x.begin(t, s)
	want(t, "Arm", d.Arm(n, picks...), api.OK)
	may := []string{old, now}
	switch e := call(); e {
	case api.OK:
		may = []string{now}
		if state(t, s) != now {
			t.Fatalf("%s: behind it something else is read", x.name)
		}
		want(t, "Crash", d.Crash(picks...), api.OK)
	default:
		want(t, x.name, e, api.ErrPower)
	}
	dead(t, s)
	if s.Busy() || len(slices.Collect(s.Changed())) > 0 {
		t.Fatalf("%s: the transaction is not over", x.name)
	}
	want(t, "Restart", d.Restart(), api.OK)
	before := faceOf(d)
	dead(t, s)
	before.stays(t, d)
	return d, may
}

// recovers holds that a disk opens with one of those states, and once more with the same, and answers it.
func recovers(t *testing.T, d *disk.Disk, may []string) string {
	t.Helper()
	s := open(t, d)
	is := state(t, s)
	if !slices.Contains(may, is) {
		t.Fatal("what is read is neither as ahead of what was cut off, nor as behind it")
	}
	holds(t, s, false, 0)
	was := faceOf(d)
	if len(was.pending) > 0 {
		t.Fatalf("%d writes are pending behind Open", len(was.pending))
	}
	again := open(t, d)
	if state(t, again) != is {
		t.Fatal("opened once more something else is read")
	}
	if got := faceOf(d); got.image[512:] != was.image[512:] || len(got.pending) > 0 {
		t.Fatal("opened once more not only the supers have changed")
	}
	return is
}

// P10.6, P10.7: the power goes in each operation of a Commit and a Checkpoint, and behind them.
func TestPower(t *testing.T) {
	for _, x := range scenes() {
		ops, writes := x.measure(t)
		seen := map[string]int{}
		for n := 1; n <= ops+1; n++ {
			for _, picks := range picksFor(dice(n), writes) {
				d, may := x.strike(t, n, picks...)
				seen[recovers(t, d, may)]++
			}
		}
		if x.edits != nil && len(seen) != 2 {
			t.Errorf("%s: there are %d states behind it, not both", x.name, len(seen))
		}
	}
}

// P10.6: each choice of the sectors, where few writes are pending.
func TestEachSector(t *testing.T) {
	x := scene{"two blocks", logged(1), []edit{{2, 3, []byte{1, 2, 3}}, {16, 0, []byte{4}}}}
	flushed := x.play
	x.play = func(t *testing.T) (*disk.Disk, *txn.Store) {
		d, s := flushed(t)
		want(t, "Flush", d.Flush(), api.OK)
		return d, s
	}
	ops, writes := x.measure(t)
	if ops != writes || ops > 6 {
		t.Fatalf("%d operations, %d writes", ops, writes)
	}
	for n := 1; n <= ops+1; n++ {
		for choice := range 256 {
			d, may := x.strike(t, n, uint8(choice&15), uint8(choice>>4))
			recovers(t, d, may)
		}
	}
}

// cutOff holds that the power goes in the n-th operation of Open, and lets it come back.
func cutOff(t *testing.T, d *disk.Disk, n int, picks ...uint8) {
	t.Helper()
	want(t, "Arm", d.Arm(n, picks...), api.OK)
	if s, e := txn.Open(d); s != nil || e != api.ErrPower {
		t.Fatalf("Open, in whose midst the power goes: %v, error %d", s, int(e))
	}
	if s, e := txn.Open(d); s != nil || e != api.ErrPower {
		t.Fatalf("Open without the power: %v, error %d", s, int(e))
	}
	want(t, "Restart", d.Restart(), api.OK)
}

func opened(d *disk.Disk) api.Errno {
	_, e := txn.Open(d)
	return e
}

// P10.6: the power goes in a call, and again in each operation of the Open behind it, and in that of the next one.
func TestPowerInOpen(t *testing.T) {
	for _, x := range scenes() {
		ops, writes := x.measure(t)
		for n := 1; n <= ops+1; n++ {
			for _, picks := range fewPicks(dice(n), writes) {
				d, may := x.strike(t, n, picks...)
				is := recovers(t, d.Clone(), may)
				for m := 1; m <= operations(t, d, opened); m++ {
					for i, again := range picksFor(dice(m), 3) {
						c := d.Clone()
						cutOff(t, c, m, again...)
						cutOff(t, c, i%operations(t, c, opened)+1, picks...)
						recovers(t, c, []string{is})
					}
				}
			}
		}
	}
}

// P10.6: as often as it will: each Open is cut off many times, and a store goes on where it was left.
func TestPowerManyTimes(t *testing.T) {
	for seed := range 60 {
		r := dice(600 + seed)
		d, s := fresh(t, small)
		is := state(t, s)
		for range 40 {
			var l []edit
			for range r.from(0, 4) {
				off := r.from(0, 255)
				l = append(l, edit{smallBlocks[r.from(0, 7)], off, r.bytes(r.from(1, min(80, 256-off)))})
			}
			if r.from(0, 3) > 0 {
				want(t, "Arm", d.Arm(r.from(1, 20), r.bytes(r.from(0, 20))...), api.OK)
			}
			may := []string{is, made(small, is, l...)}
			begins(t, s, l...)
			switch e := s.Commit(); {
			case e == api.OK:
				may = may[1:]
			case e == api.ErrLog:
				may = may[:1]
			default:
				want(t, "Commit", e, api.ErrPower)
			}
			if d.On() && r.from(0, 3) == 0 {
				if e := s.Checkpoint(); e != api.OK {
					want(t, "Checkpoint", e, api.ErrPower)
				}
			}
			if d.On() && r.from(0, 2) > 0 {
				is = state(t, s)
				if !slices.Contains(may, is) {
					t.Fatal("something else is read")
				}
				continue
			}
			d.Crash(r.bytes(r.from(0, 12))...)
			want(t, "Restart", d.Restart(), api.OK)
			for range r.from(0, 5) {
				cutOff(t, d, r.from(1, operations(t, d, opened)), r.bytes(r.from(0, 10))...)
			}
			is = recovers(t, d, may)
			s = open(t, d)
		}
	}
}
