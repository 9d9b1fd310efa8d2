package txn_test

import (
	"bytes"
	"math"
	"reflect"
	"slices"
	"testing"

	"attic/api"
	"attic/disk"
	"attic/txn"
)

// R3: the bytes of a Write are not written to, with the room behind them, and may be changed by their owner afterwards.
func TestHandedIn(t *testing.T) {
	roll := dice(93)
	d, s := fresh(t, small)
	room := roll.bytes(600)
	first := bytes.Clone(room)
	now := state(t, s)
	begins(t, s)
	for _, x := range []edit{
		{2, 0, room[:256]}, {2, 3, room[10:20]}, {11, 200, room[300:356]}, {12, 256, room[:0]},
		{17, 100, room[400:500:500]}, {17, 90, room[100:200]}, {13, 0, room[50:306:306]},
	} {
		want(t, "Write", s.Write(x.block, x.off, x.b), api.OK)
		want(t, "Write", s.Write(x.block, x.off+1, room[:256]), api.ErrArg)
		want(t, "Write", s.Write(18, x.off, x.b), api.ErrArg)
		if !bytes.Equal(room, first) {
			t.Fatal("the bytes that were handed in were written to")
		}
		now = made(small, now, x)
		clear(room)
		if state(t, s) != now {
			t.Fatal("their owner has changed what was written")
		}
		copy(room, first)
	}
	clear(room)
	want(t, "Commit", s.Commit(), api.OK)
	if !bytes.Equal(room, make([]byte, 600)) {
		t.Fatal("the bytes that were handed in were written to by the Commit")
	}
	if state(t, s) != now || state(t, crashed(t, d)) != now {
		t.Fatal("something else is read")
	}
}

// spoil writes over all that a row of bytes has, and over the room behind it.
func spoil(b []byte) {
	b = b[:cap(b)]
	for i := range b {
		b[i] ^= 0xff
	}
}

// R3: the bytes that Read answers are nobody's else: the transaction's, the disk's, or another Read's.
func TestAnswers(t *testing.T) {
	d, s := used(t)
	now := state(t, s)
	for _, in := range []bool{false, true} {
		if in {
			x := edit{2, 17, []byte{1, 2, 3}}
			now = made(small, now, x)
			begins(t, s, x)
		}
		before := faceOf(d)
		for _, n := range []int{0, 1, 40, 256} {
			for i, block := range smallBlocks {
				other, _ := s.Read(block, 0, n)
				b, e := s.Read(block, 0, n)
				want(t, "Read", e, api.OK)
				spoil(b)
				if string(other) != now[256*i:256*i+n] {
					t.Fatal("two answers share their bytes")
				}
			}
		}
		if state(t, s) != now {
			t.Fatal("an answer's owner has changed what is read")
		}
		before.stays(t, d)
	}
	was, _ := s.Read(2, 0, 256)
	old := bytes.Clone(was)
	want(t, "Write", s.Write(2, 0, make([]byte, 256)), api.OK)
	if !bytes.Equal(was, old) {
		t.Fatal("a Write has changed what Read had answered")
	}
	page, _ := s.Read(11, 0, 256)
	want(t, "Write", s.Write(11, 0, page), api.OK)
	spoil(page)
	want(t, "Commit", s.Commit(), api.OK)
	now = made(small, now, edit{2, 0, make([]byte, 256)})
	if state(t, s) != now || state(t, crashed(t, d)) != now {
		t.Fatal("something else is read")
	}
}

// R3, P10.3: Changed stopped, done again, and within itself.
func TestChangedRanges(t *testing.T) {
	_, s := fresh(t, small)
	blocks := []int{17, 2, 13, 11}
	begins(t, s, full(3, blocks...)...)
	for range 3 { // each once, however often it was written to
		want(t, "Write", s.Write(13, 7, []byte{1}), api.OK)
	}
	slices.Sort(blocks)
	seq := s.Changed()
	for most := 1; most <= 4; most++ {
		calls := 0
		seq(func(block int) bool {
			if block != blocks[calls] {
				t.Fatalf("the %d-th block is %d", calls, block)
			}
			calls++
			return calls < most
		})
		if calls != most {
			t.Fatalf("a range that is to stop behind %d blocks tells %d", most, calls)
		}
	}
	for range 2 {
		var pairs []int
		for a := range seq {
			for b := range seq {
				pairs = append(pairs, a*100+b)
			}
		}
		if len(pairs) != 16 || !slices.IsSorted(pairs) {
			t.Fatalf("ranges within ranges tell %v", pairs)
		}
	}
}

// R3: Changed tells what was there when it was asked for, while the transaction goes on, ends, and another one begins.
func TestChangedAsAsked(t *testing.T) {
	_, s := fresh(t, small)
	none := s.Changed()
	begins(t, s, full(3, 17, 11)...)
	two := s.Changed()
	at := 0
	for block := range s.Changed() {
		want(t, "Write", s.Write(smallBlocks[at+2], 0, []byte{1}), api.OK)
		want(t, "Write", s.Write(block, 0, []byte{2}), api.OK)
		at++
	}
	if at != 2 {
		t.Fatalf("a range over two blocks tells %d", at)
	}
	four := s.Changed()
	asked := func() {
		t.Helper()
		for i, wanted := range [][]int{nil, {11, 17}, {11, 12, 13, 17}} {
			if got := slices.Collect([]func(func(int) bool){none, two, four}[i]); !slices.Equal(got, wanted) {
				t.Fatalf("Changed tells %v, not %v", got, wanted)
			}
		}
	}
	asked()
	want(t, "Commit", s.Commit(), api.OK)
	holds(t, s, false, s.Held())
	asked()
	begins(t, s, full(5, 2)...)
	asked()
	for range four {
		s.Abort()
	}
	asked()
}

// R5: a store that no call made answers as the chapter says, and is as it was.
func TestNotMade(t *testing.T) {
	ints := []int{math.MinInt, -1, 0, 1, 2, 17, 255, 256, 257, math.MaxInt}
	for _, s := range []*txn.Store{nil, {}} {
		for range 2 {
			want(t, "Begin", s.Begin(), api.ErrMade)
			want(t, "Commit", s.Commit(), api.ErrMade)
			want(t, "Abort", s.Abort(), api.ErrMade)
			want(t, "Checkpoint", s.Checkpoint(), api.ErrMade)
			for _, block := range ints {
				for _, off := range ints {
					for _, n := range ints {
						refusesRead(t, s, block, off, n, api.ErrMade)
					}
					for _, b := range [][]byte{nil, {}, {1}, make([]byte, 256), make([]byte, 257)} {
						want(t, "Write", s.Write(block, off, b), api.ErrMade)
					}
				}
			}
			holds(t, s, false, 0)
			for range 2 {
				for block := range s.Changed() {
					t.Errorf("Changed tells %d", block)
				}
			}
			if s.Plan() != (api.Plan{}) || s.Geometry() != (api.Geometry{}) || s.Disk() != nil {
				t.Errorf("Plan %v, Geometry %v, Disk %v", s.Plan(), s.Geometry(), s.Disk())
			}
		}
		if s != nil && !reflect.ValueOf(*s).IsZero() {
			t.Error("a call has made something of it")
		}
	}
}

// R1: the calls of a store end, at all arguments.
func TestAllArguments(t *testing.T) {
	ints := []int{math.MinInt, math.MinInt + 1, -1 << 32, -256, -1, 0, 1, 2, 3, 10, 11, 17, 18, 19, 255, 256, 257, 2047, 2048, 1 << 32, math.MaxInt - 255, math.MaxInt - 1, math.MaxInt}
	for _, in := range []bool{false, true} {
		d, s := used(t)
		was := state(t, s)
		if in {
			begins(t, s)
		}
		before := faceOf(d)
		for _, block := range ints {
			for _, off := range ints {
				for _, n := range ints {
					b, e := s.Read(block, off, n)
					if may := slices.Contains(smallBlocks, block) && off >= 0 && off <= 256 && n >= 0 && n <= 256-off; may != (e == api.OK) || may && len(b) != n || !may && (b != nil || e != api.ErrArg) {
						t.Fatalf("Read(%d, %d, %d): %d bytes, error %d", block, off, n, len(b), int(e))
					}
				}
				for _, n := range []int{0, 1, 255, 256, 257, 1 << 20} {
					wanted := api.ErrArg
					if slices.Contains(smallBlocks, block) && off >= 0 && off <= 256 && n <= 256-off {
						wanted = api.OK
					}
					if !in {
						wanted = api.ErrTxn
					}
					want(t, "Write", s.Write(block, off, make([]byte, n)), wanted)
				}
			}
		}
		before.stays(t, d)
		s.Abort()
		if state(t, s) != was {
			t.Fatal("something else is read")
		}
	}
}

// Power: once a call has met the power gone, each one says so, though it comes back: whichever call it was.
func TestPowerGone(t *testing.T) {
	for i, call := range []func(s *txn.Store){
		func(s *txn.Store) { s.Begin() },
		func(s *txn.Store) { s.Commit() },
		func(s *txn.Store) { s.Abort() },
		func(s *txn.Store) { s.Busy() },
		func(s *txn.Store) { s.Read(2, 0, 1) },
		func(s *txn.Store) { s.Read(-1, 0, 1) },
		func(s *txn.Store) { s.Write(2, 0, []byte{1}) },
		func(s *txn.Store) { s.Changed() },
		func(s *txn.Store) { s.Checkpoint() },
		func(s *txn.Store) { s.Held() },
		func(s *txn.Store) { s.Plan() },
		func(s *txn.Store) { s.Geometry() },
		func(s *txn.Store) { s.Disk() },
	} {
		for _, in := range []bool{false, true} {
			d, s := used(t)
			plan := s.Plan()
			if in {
				begins(t, s, full(1, 2)...)
			}
			want(t, "Crash", d.Crash(), api.OK)
			call(s)
			want(t, "Restart", d.Restart(), api.OK)
			before := faceOf(d)
			if e := s.Checkpoint(); e != api.ErrPower {
				t.Fatalf("behind the %d-th call: error %d", i, int(e))
			}
			dead(t, s)
			if s.Plan() != plan || s.Geometry() != small || s.Disk() != d || s.Held() < 0 {
				t.Fatal("the store stands on something else")
			}
			before.stays(t, d)
		}
	}
}

// Power: a call in whose midst it goes is the last one, though it comes back ahead of the next one.
func TestPowerInTheMidst(t *testing.T) {
	for _, x := range scenes() {
		ops, writes := x.measure(t)
		for n := 1; n <= ops; n++ {
			for _, picks := range fewPicks(dice(n), writes) {
				d, s := x.play(t)
				call := x.begin(t, s)
				want(t, "Arm", d.Arm(n, picks...), api.OK)
				want(t, x.name, call(), api.ErrPower)
				want(t, "Restart", d.Restart(), api.OK)
				before := faceOf(d)
				dead(t, s)
				before.stays(t, d)
			}
		}
	}
}

// P10.4: a Commit that the power refuses is over, too.
func TestPowerEndsCommit(t *testing.T) {
	d, s := used(t)
	begins(t, s, full(1, 2, 11)...)
	want(t, "Crash", d.Crash(), api.OK)
	want(t, "Write", s.Write(12, 0, []byte{1}), api.ErrPower)
	want(t, "Commit", s.Commit(), api.ErrPower)
	if s.Busy() || len(slices.Collect(s.Changed())) > 0 {
		t.Fatal("the transaction is not over")
	}
}

// P10.3: what Read answers is what the disk reads, whoever has written it.
func TestReadsTheDisk(t *testing.T) {
	roll := dice(103)
	d, s := used(t)
	is := state(t, s)
	writes := func(block int) edit {
		x := edit{block, 0, roll.bytes(256)}
		want(t, "Write beside the store", d.Write(block, x.b), api.OK)
		return x
	}
	is = made(small, is, writes(2), writes(13))
	if state(t, s) != is {
		t.Fatal("what was written beside the store is not read")
	}
	begins(t, s, edit{2, 10, []byte{1, 2, 3}}, edit{11, 0, []byte{4}})
	is = made(small, is, writes(2), writes(17))
	now := made(small, is, edit{2, 10, []byte{1, 2, 3}}, edit{11, 0, []byte{4}})
	if state(t, s) != now {
		t.Fatal("the transaction reads something else")
	}
	want(t, "Commit", s.Commit(), api.OK)
	if state(t, s) != now {
		t.Fatal("the Commit has made something else")
	}
	now = made(small, now, writes(12))
	want(t, "Checkpoint", s.Checkpoint(), api.OK)
	now = made(small, now, writes(11))
	want(t, "Checkpoint", s.Checkpoint(), api.OK)
	if state(t, s) != now {
		t.Fatal("behind a Checkpoint something else is read")
	}
	want(t, "Flush", d.Flush(), api.OK)
	if state(t, crashed(t, d)) != now {
		t.Fatal("behind a crash something else is read")
	}
}

// R1: the calls of a store end, whatever its owner makes of the disk under it.
func TestDiskThatIsGone(t *testing.T) {
	calls := func(s *txn.Store) {
		s.Busy()
		s.Held()
		s.Read(2, 0, 256)
		s.Read(17, 0, 256)
		s.Write(17, 0, []byte{9})
		for range s.Changed() {
		}
		s.Commit()
		s.Begin()
		s.Write(2, 0, []byte{9})
		s.Write(17, 0, []byte{9})
		s.Commit()
		s.Checkpoint()
		s.Abort()
	}
	for _, other := range []*disk.Disk{{}, noise(t, 1), noise(t, 2), noise(t, 4), noise(t, 12), noise(t, 2048), formatted(t, geometries[1])} {
		for _, in := range []bool{false, true} {
			d, s := used(t)
			if in {
				begins(t, s, full(1, 2, 17)...)
			}
			*d = disk.Disk{}
			if other.Len() > 0 {
				*d = *other.Clone()
			}
			calls(s)
			calls(s)
		}
	}
	d, s := used(t)
	want(t, "Crash", d.Crash(), api.OK)
	want(t, "Restart", d.Restart(), api.OK)
	calls(s) // the power went and came back between two calls
	calls(s)
}

// R3: two stores on two disks know nothing of each other.
func TestTwoStores(t *testing.T) {
	d, s := used(t)
	now := state(t, s)
	twin := open(t, d.Clone())
	commits(t, twin, full(9, 2, 11, 17)...)
	begins(t, twin, full(8, 2, 12)...)
	if state(t, s) != now || s.Busy() {
		t.Fatal("a store knows of another one")
	}
}

// R6: the same calls answer the same, however often they are done.
func TestSameAgain(t *testing.T) {
	var first face
	for n := range 10 {
		r := dice(106)
		g := geometries[3]
		d, s := fresh(t, g)
		blocks := usable(g)
		for range 20 {
			begins(t, s)
			for range r.from(1, 30) {
				want(t, "Write", s.Write(blocks[r.from(0, len(blocks)-1)], r.from(0, 200), r.bytes(r.from(1, 50))), api.OK)
			}
			s.Commit()
		}
		if n == 0 {
			first = faceOf(d)
		}
		first.stays(t, d)
	}
}
