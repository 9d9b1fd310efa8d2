package ring_test

import (
	"slices"
	"testing"

	"attic/api"
	"attic/disk"
	"attic/ring"
)

// eachPicks goes through each choice of the sectors of so many writes.
func eachPicks(writes int, do func(picks []uint8)) {
	picks := make([]uint8, writes)
	for choice := range 1 << (4 * writes) {
		for w := range picks {
			picks[w] = uint8(choice>>(4*w)) & 15
		}
		do(picks)
	}
}

// scene is a ring that has been round once, holds what was synced, and then has batches appended to it.
type scene struct {
	blocks int
	head   int64
	synced int
	trim   int // of those that were synced, right behind the Sync
	batch  []int
}

var scenes = []scene{
	{1, 0, 0, 0, []int{4}},
	{1, 2, 0, 0, []int{4}},
	{1, 3, 1, 0, []int{3}},
	{1, 3, 2, 1, []int{3}},
	{1, 0, 4, 4, []int{3}},
	{1, 5, 0, 0, []int{1, 1, 1}},
	{1, 6, 1, 0, []int{1, 2}},
	{2, 8, 0, 0, []int{8}},
	{2, 9, 0, 0, []int{8}},
	{2, 14, 3, 0, []int{5}},
	{2, 14, 3, 2, []int{7}},
	{2, 12, 1, 1, []int{2, 3, 2}},
	{2, 0, 8, 5, []int{2, 3}},
	{2, 7, 5, 0, []int{0, 3}},
	{3, 22, 6, 2, []int{5, 3}},
	{3, 12, 2, 0, []int{10}},
}

const base = 1

// play lays a scene up to its Sync and Trim: the disk, the ring, what it holds, the batches that come then.
func (s scene) play(t *testing.T) (*disk.Disk, *ring.Ring, []api.Record, [][]api.Record) {
	t.Helper()
	roll := dice(s.blocks*1000 + s.synced)
	d := fresh(t, s.blocks+2)
	r, _ := open(t, d, base, s.blocks, s.head)
	want(t, "Append of a lap", r.Append(roll.records(4*s.blocks)...), api.OK)
	want(t, "Sync", r.Sync(), api.OK)
	want(t, "Trim", r.Trim(r.Tail()), api.OK)
	synced := roll.records(s.synced)
	want(t, "Append", r.Append(synced...), api.OK)
	want(t, "Sync", r.Sync(), api.OK)
	want(t, "Trim", r.Trim(r.Head()+int64(s.trim)), api.OK)
	var batches [][]api.Record
	for _, many := range s.batch {
		batches = append(batches, roll.records(many))
	}
	return d, r, synced[s.trim:], batches
}

// beginning holds that Open from head tells all of the first ones and a beginning of those behind, and answers how
// many of these.
func beginning(t *testing.T, d *disk.Disk, blocks int, head int64, first, behind []api.Record) int {
	t.Helper()
	_, got := open(t, d, base, blocks, head)
	if len(got) < len(first) || len(got) > len(first)+len(behind) {
		t.Fatalf("Open tells %d records, of %d that were synced and %d behind them", len(got), len(first), len(behind))
	}
	wantList(t, "Open", got, slices.Concat(first, behind)[:len(got)])
	return len(got) - len(first)
}

// P7.4: the power goes behind what was appended, with each choice of the sectors that reach the disk.
func TestBeginning(t *testing.T) {
	for _, s := range scenes {
		d, r, held, batches := s.play(t)
		for _, l := range batches {
			want(t, "Append", r.Append(l...), api.OK)
		}
		behind := slices.Concat(batches...)
		writes := len(faceOf(d).pending)
		seen := make([]int, len(behind)+1)
		eachPicks(writes, func(picks []uint8) {
			c := d.Clone()
			want(t, "Crash", c.Crash(picks...), api.OK)
			want(t, "Restart", c.Restart(), api.OK)
			seen[beginning(t, c, s.blocks, r.Head(), held, behind)]++
		})
		for many, times := range seen {
			if times == 0 {
				t.Errorf("%+v: with no choice Open tells just %d of those behind", s, many)
			}
		}
		holds(t, r, s.blocks, r.Head(), slices.Concat(held, behind)...)
		want(t, "Sync", r.Sync(), api.OK)
		c := d.Clone()
		want(t, "Crash", c.Crash(), api.OK)
		want(t, "Restart", c.Restart(), api.OK)
		opens(t, c, base, s.blocks, r.Head(), slices.Concat(held, behind)...)
	}
}

// step is a call, and the records that it appends.
type step struct {
	l  []api.Record
	do func() api.Errno
}

// steps are a scene's batches, and a Sync behind them.
func steps(r *ring.Ring, batches [][]api.Record) []step {
	var out []step
	for _, l := range batches {
		out = append(out, step{l, func() api.Errno { return r.Append(l...) }})
	}
	return append(out, step{nil, r.Sync})
}

// operations is how many operations a scene's steps are.
func (s scene) operations(t *testing.T) int {
	t.Helper()
	d, r, _, batches := s.play(t)
	before := d.Ops()
	for _, step := range steps(r, batches) {
		want(t, "a step", step.do(), api.OK)
	}
	return int(d.Ops() - before)
}

// P7.2, P7.4: the power goes in the midst of each operation of an Append, and of a Sync.
func TestPowerInTheMidst(t *testing.T) {
	for _, s := range scenes {
		for stop := range s.operations(t) {
			for _, pick := range []uint8{0, 1, 2, 4, 8, 5, 10, 7, 14, 15} {
				picks := slices.Repeat([]uint8{pick}, stop+1)
				s.strike(t, stop+1, picks...)
				for w := range picks {
					other := slices.Clone(picks)
					other[w] ^= 15
					s.strike(t, stop+1, other...)
				}
			}
		}
	}
}

// strike lets the power go in that operation of a scene, and looks at what the ring and the disk are then.
func (s scene) strike(t *testing.T, stop int, picks ...uint8) {
	t.Helper()
	d, r, synced, batches := s.play(t)
	want(t, "Arm", d.Arm(stop, picks...), api.OK)
	head := r.Head()
	var done, begun []api.Record
	for _, step := range steps(r, batches) {
		begun = append(begun, step.l...)
		if e := step.do(); e != api.OK {
			want(t, "the call in whose midst the power goes", e, api.ErrPower)
			break
		}
		done = append(done, step.l...)
	}
	if d.On() {
		t.Fatal("no call has said that the power is gone")
	}
	held := slices.Concat(synced, done)
	holds(t, r, s.blocks, head, held...)
	dead := faceOf(d)
	want(t, "Sync without the power", r.Sync(), api.ErrPower)
	if r.Room() > 0 {
		want(t, "Append without the power", r.Append(commit(1)), api.ErrPower)
	}
	want(t, "Append of nothing", r.Append(), api.OK)
	refused(t, d, base, s.blocks, head, api.ErrPower)
	dead.stays(t, d)
	holds(t, r, s.blocks, head, held...)
	want(t, "Restart", d.Restart(), api.OK)
	beginning(t, d, s.blocks, head, synced, begun)
}

// P7.2: a ring whose power was gone and came back appends from the Tail on that it has.
func TestAppendBehindPower(t *testing.T) {
	d := fresh(t, 2)
	r, _ := open(t, d, 0, 2, 14)
	a, b, c := commit(1), patch(2, 3, 4), commit(5)
	want(t, "Append", r.Append(a), api.OK)
	want(t, "Sync", r.Sync(), api.OK)
	want(t, "Arm", d.Arm(2, 15), api.OK)
	want(t, "Append", r.Append(b, b, b), api.ErrPower)
	holds(t, r, 2, 14, a)
	want(t, "Restart", d.Restart(), api.OK)
	opens(t, d, 0, 2, 14, a, b)
	appends(t, d, r, 0, 2, c, c, c)
	holds(t, r, 2, 14, a, c, c, c)
	opens(t, d, 0, 2, 14, a, c, c, c)
}

// P7.2: Sync is the disk's Flush.
func TestSync(t *testing.T) {
	roll := dice(83)
	d := fresh(t, 3)
	r, _ := open(t, d, 1, 2, 8)
	l := roll.records(6)
	want(t, "Append", r.Append(l...), api.OK)
	want(t, "Write beside the ring", d.Write(0, roll.bytes(256)), api.OK)
	c := d.Clone()
	want(t, "Flush", c.Flush(), api.OK)
	want(t, "Sync", r.Sync(), api.OK)
	faceOf(c).stays(t, d)
	want(t, "Sync of nothing", r.Sync(), api.OK)
	want(t, "Flush", c.Flush(), api.OK)
	faceOf(c).stays(t, d)
	holds(t, r, 2, 8, l...)

	want(t, "Append", r.Append(roll.record()), api.OK)
	want(t, "Arm", d.Arm(1), api.OK)
	want(t, "Sync, in whose midst the power goes", r.Sync(), api.ErrPower)
	want(t, "Sync without the power", r.Sync(), api.ErrPower)
	want(t, "Restart", d.Restart(), api.OK)
	opens(t, d, 1, 2, 8, l...)
}
