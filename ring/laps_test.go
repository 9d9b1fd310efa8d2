package ring_test

import (
	"slices"
	"testing"

	"attic/api"
	"attic/disk"
	"attic/ring"
)

// emptyAhead holds that a ring opened with Lap of the Tail holds nothing, as the disk reads, and as it would behind a
// crash with those picks.
func emptyAhead(t *testing.T, d *disk.Disk, r *ring.Ring, blocks int, picks ...uint8) {
	t.Helper()
	next := ring.Lap(r.Tail(), blocks)
	if next != r.Tail()+int64(4*blocks) {
		t.Fatalf("Lap of %d: %d", r.Tail(), next)
	}
	c := d.Clone()
	opens(t, c, base, blocks, next)
	want(t, "Crash", c.Crash(picks...), api.OK)
	want(t, "Restart", c.Restart(), api.OK)
	opens(t, c, base, blocks, next)
}

// P7.5: several laps in a row, each with as many records as there is room for, or fewer.
func TestLapsInARow(t *testing.T) {
	roll := dice(84)
	for _, blocks := range []int{1, 2, 3, 256} {
		for _, many := range []int{0, 1, 3, 4 * blocks} {
			d := fresh(t, blocks+2)
			head := int64(4 * blocks)
			for range 6 {
				r, l := open(t, d, base, blocks, head)
				wantList(t, "Open with Lap of the Tail", l, nil)
				want(t, "Append", r.Append(roll.records(min(many, 4*blocks))...), api.OK)
				want(t, "Sync", r.Sync(), api.OK)
				emptyAhead(t, d, r, blocks)
				head = ring.Lap(r.Tail(), blocks)
			}
		}
	}
}

// again opens a ring as P7.5 lets it: with Lap of its Tail, its Head, or a number between Head and Tail.
func again(t *testing.T, roll *dice, d *disk.Disk, r *ring.Ring, blocks int) *ring.Ring {
	t.Helper()
	head := r.Head()
	switch roll.from(0, 2) {
	case 0:
		head = ring.Lap(r.Tail(), blocks)
	case 1:
		head += int64(roll.from(0, int(r.Tail()-r.Head())))
	}
	next, l := open(t, d, base, blocks, head)
	if head > r.Tail() && len(l) > 0 {
		t.Fatalf("Open with Lap of the Tail tells %d records", len(l))
	}
	return next
}

// P7.5: whatever was appended, synced, trimmed and opened again, and whenever the power went.
func TestNewLapIsEmpty(t *testing.T) {
	for seed := range 120 {
		roll := dice(8500 + seed)
		blocks := roll.from(1, 3)
		d := fresh(t, blocks+2)
		r, _ := open(t, d, base, blocks, int64(roll.from(0, 30)))
		for range 40 {
			picks := roll.bytes(roll.from(0, 5))
			switch roll.from(0, 7) {
			case 0:
				want(t, "Sync", r.Sync(), api.OK)
			case 1:
				want(t, "Trim", r.Trim(r.Head()+int64(roll.from(0, int(r.Tail()-r.Head())))), api.OK)
			case 2:
				want(t, "Crash", d.Crash(picks...), api.OK)
				want(t, "Restart", d.Restart(), api.OK)
				r = again(t, &roll, d, r, blocks)
			case 3:
				want(t, "Arm", d.Arm(roll.from(1, 2), picks...), api.OK)
				if r.Append(roll.records(r.Room())...) == api.OK {
					r.Sync()
				}
				d.Restart()
				want(t, "Arm", d.Arm(0), api.OK)
				r = again(t, &roll, d, r, blocks)
			case 4:
				r = again(t, &roll, d, r, blocks)
			default:
				want(t, "Append", r.Append(roll.records(roll.from(0, r.Room()))...), api.OK)
			}
			emptyAhead(t, d, r, blocks, picks...)
		}
	}
}

// P7.6: as often as it goes round, and wherever it begins, Open from Head holds what the ring held.
func TestRoundAndRound(t *testing.T) {
	for seed := range 30 {
		roll := dice(8600 + seed)
		blocks := roll.from(1, 5)
		d := fresh(t, blocks+2)
		head := int64(roll.from(0, 50))
		r, _ := open(t, d, base, blocks, head)
		var held []api.Record
		for end := head + int64(40*blocks); r.Tail() < end; {
			l := roll.records(roll.from(0, r.Room()))
			want(t, "Append", r.Append(l...), api.OK)
			held = slices.Concat(held, l)
			opens(t, d, base, blocks, head, held...)
			holds(t, r, blocks, head, held...)
			if roll.from(0, 2) == 0 {
				want(t, "Sync", r.Sync(), api.OK)
			}
			gone := roll.from(0, len(held))
			head, held = head+int64(gone), held[gone:]
			want(t, "Trim", r.Trim(head), api.OK)
			opens(t, d, base, blocks, head, held...)
			holds(t, r, blocks, head, held...)
			if roll.from(0, 3) == 0 {
				r, _ = open(t, d, base, blocks, head)
			}
		}
	}
}

// P7.6: one record at a time, with the ring full all the while.
func TestFullAllTheWhile(t *testing.T) {
	roll := dice(87)
	for _, blocks := range []int{1, 2, 8} {
		d := fresh(t, blocks+2)
		r, _ := open(t, d, base, blocks, 3)
		held := roll.records(4 * blocks)
		want(t, "Append", r.Append(held...), api.OK)
		for range 12 * blocks {
			want(t, "Append to a full ring", r.Append(commit(1)), api.ErrRing)
			want(t, "Trim", r.Trim(r.Head()+1), api.OK)
			x := roll.record()
			want(t, "Append", r.Append(x), api.OK)
			held = append(held[1:], x)
			opens(t, d, base, blocks, r.Head(), held...)
			want(t, "Sync", r.Sync(), api.OK)
		}
	}
}

// paper is a ring put another way: what it holds, and a disk of its own to which the same is done.
type paper struct {
	blocks int
	head   int64
	held   []api.Record
	twin   *disk.Disk
}

func (p *paper) tail() int64 { return p.head + int64(len(p.held)) }

func (p *paper) append(t *testing.T, l []api.Record) api.Errno {
	if slices.ContainsFunc(l, func(x api.Record) bool { return x.Kind != api.RcPatch && x.Kind != api.RcCommit }) {
		return api.ErrRecord
	}
	if len(p.held)+len(l) > 4*p.blocks {
		return api.ErrRing
	}
	if p.tail()+int64(len(l)) > most {
		return api.ErrLong
	}
	if len(l) > 0 && !p.twin.On() {
		return api.ErrPower
	}
	if len(l) == 0 {
		return api.OK
	}
	for _, w := range writesOf(t, p.twin, base, p.blocks, p.tail(), l) {
		if e := p.twin.Write(w.block, []byte(w.bytes)); e != api.OK {
			return e
		}
	}
	p.held = slices.Concat(p.held, l)
	return api.OK
}

func (p *paper) trim(head int64) api.Errno {
	if head < p.head || head > p.tail() {
		return api.ErrArg
	}
	p.held, p.head = p.held[head-p.head:], head
	return api.OK
}

// reopen is Open of the paper: it looks through the sectors number by number.
func (p *paper) reopen(t *testing.T, head int64) api.Errno {
	if head < 0 || head > most {
		return api.ErrArg
	}
	if !p.twin.On() {
		return api.ErrPower
	}
	p.head, p.held = head, nil
	for len(p.held) < 4*p.blocks {
		x, ok := standing(t, p.twin, p.blocks, p.tail())
		if !ok {
			break
		}
		p.held = append(p.held, x)
	}
	return api.OK
}

// standing is the record that stands as that number: what its sector tells, if that is the very sector of it.
func standing(t *testing.T, d *disk.Disk, blocks int, n int64) (api.Record, bool) {
	at := int(n % int64(4*blocks))
	b, _ := d.Read(base + at/4)
	s := string(b[64*(at%4) : 64*(at%4)+64])
	size := int(s[1])
	x := api.Record{Kind: int(s[0]), Off: int(s[14])}
	number := int(s[10]) | int(s[11])<<8 | int(s[12])<<16 | int(s[13])<<24
	switch {
	case x.Kind == api.RcCommit && size == 0 && x.Off == 0 && number <= 1<<16:
		x.Many = number
	case x.Kind == api.RcPatch && size >= 1 && size <= 44 && x.Off+size <= 256 && number < 2048:
		x.Block, x.Data = number, []byte(s[16:16+size])
	default:
		return api.Record{}, false
	}
	return x, string(sectorOf(t, n, x)) == s
}

// move does one thing to both, and answers both errors.
func move(t *testing.T, roll *dice, d *disk.Disk, r **ring.Ring, p *paper) (got, want api.Errno) {
	picks := roll.bytes(roll.from(0, 6))
	switch roll.from(0, 13) {
	case 0:
		return (*r).Sync(), p.twin.Flush()
	case 1:
		return d.Crash(picks...), p.twin.Crash(picks...)
	case 2, 3, 4:
		return d.Restart(), p.twin.Restart()
	case 5:
		n := roll.from(0, 4)
		return d.Arm(n, picks...), p.twin.Arm(n, picks...)
	case 6, 7:
		head := p.head + int64(roll.from(-1, len(p.held)+1))
		return (*r).Trim(head), p.trim(head)
	case 8:
		heads := []int64{p.head, p.tail(), p.tail() + int64(4*p.blocks), p.head + int64(roll.from(0, len(p.held))), -1, most + 1}
		head := heads[roll.from(0, len(heads)-1)]
		next, _, e := ring.Open(d, base, p.blocks, head)
		if e == api.OK {
			*r = next
		}
		return e, p.reopen(t, head)
	case 9:
		l := roll.records(roll.from(0, 5))
		l = slices.Insert(l, roll.from(0, len(l)), api.Record{Kind: 5})
		return (*r).Append(l...), p.append(t, l)
	default:
		l := roll.records(roll.from(0, 4*p.blocks-len(p.held)+1))
		return (*r).Append(l...), p.append(t, l)
	}
}

// P7.1 to P7.3: whatever is called, in whichever order.
func TestAgainstPaper(t *testing.T) {
	for seed := range 150 {
		roll := dice(9000 + seed)
		blocks := roll.from(1, 4)
		d := fresh(t, blocks+2)
		heads := []int64{0, 3, int64(4 * blocks), 1 << 50, most - 20, most}
		head := heads[roll.from(0, len(heads)-1)]
		r, _ := open(t, d, base, blocks, head)
		p := &paper{blocks: blocks, head: head, twin: d.Clone()}
		for range 80 {
			got, wanted := move(t, &roll, d, &r, p)
			want(t, "a move", got, wanted)
			holds(t, r, blocks, p.head, p.held...)
			faceOf(p.twin).stays(t, d)
		}
	}
}
