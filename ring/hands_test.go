package ring_test

import (
	"bytes"
	"math"
	"slices"
	"testing"

	"attic/api"
	"attic/disk"
	"attic/ring"
)

// own is records with Data of their own, written out.
func own(l []api.Record) []api.Record {
	var out []api.Record
	for _, x := range l {
		x.Data = append([]byte(nil), x.Data...)
		out = append(out, x)
	}
	return out
}

// spoil writes over all that a list of records has, and over the room behind it.
func spoil(l []api.Record) {
	for i := range l {
		for k := range l[i].Data[:cap(l[i].Data)] {
			l[i].Data[:cap(l[i].Data)][k] ^= 0xff
		}
		l[i] = api.Record{Kind: 9}
	}
}

// R3: what is handed to Append is not written to, with the room behind it, and may be changed by its owner afterwards.
func TestHandedIn(t *testing.T) {
	roll := dice(88)
	d := fresh(t, 3)
	r, _ := open(t, d, 1, 2, 13)
	room := roll.bytes(200)
	first := bytes.Clone(room)
	l := []api.Record{
		patch(1, 2, room[:20]...),
		commit(3),
		{Kind: api.RcPatch, Block: 4, Off: 5, Data: room[30:40]},
		{Kind: api.RcCommit, Many: 6, Data: room[50:50]},
		{Kind: api.RcPatch, Block: 7, Off: 8, Data: room[60:104:104]},
		{Kind: 77},
	}
	before := own(l)
	want(t, "Append", r.Append(l[:5]...), api.OK)
	wantList(t, "the list that was handed in", l, before)
	if !bytes.Equal(room, first) {
		t.Fatal("the bytes that were handed in were written to")
	}
	want(t, "Append", r.Append(l...), api.ErrRecord)
	wantList(t, "the list that was refused", l, before)

	spoil(l)
	clear(room)
	holds(t, r, 2, 13, before[:5]...)
	opens(t, d, 1, 2, 13, before[:5]...)
}

// P7.2, R4: no Data and Data of no bytes are the same.
func TestNoData(t *testing.T) {
	d := fresh(t, 1)
	r, _ := open(t, d, 0, 1, 0)
	want(t, "Append", r.Append(commit(1), api.Record{Kind: api.RcCommit, Many: 1, Data: []byte{}}), api.OK)
	holds(t, r, 1, 0, commit(1), commit(1))
	opens(t, d, 0, 1, 0, commit(1), commit(1))
}

// R3: what Open and All tell is nobody's else.
func TestAnswers(t *testing.T) {
	roll := dice(89)
	d := fresh(t, 3)
	r, _ := open(t, d, 1, 2, 6)
	l := roll.records(7)
	want(t, "Append", r.Append(l...), api.OK)
	r, told := open(t, d, 1, 2, 6)
	before := faceOf(d)
	spoil(told)
	holds(t, r, 2, 6, l...)
	before.stays(t, d)

	_, told = open(t, d, 1, 2, 6)
	seq := r.All()
	for range 3 {
		var got []api.Record
		for _, x := range seq {
			got = append(got, x)
		}
		wantList(t, "a range behind another one whose records were changed", got, l)
		spoil(got)
	}
	for i, x := range seq {
		next := patch(9, 9, slices.Repeat([]byte{9}, 44)...)
		x.Data = append(x.Data, next.Data...)
		x.Block = int(i)
	}
	holds(t, r, 2, 6, l...)
	wantList(t, "what another Open told", told, l)
	before.stays(t, d)
	opens(t, d, 1, 2, 6, l...)
}

// R3: two rings of one disk know nothing of each other but by the disk.
func TestTwoRings(t *testing.T) {
	d := fresh(t, 2)
	a, b, c := commit(1), patch(2, 3, 4), commit(5)
	r, _ := open(t, d, 0, 2, 8)
	want(t, "Append", r.Append(a, b), api.OK)
	s, _ := open(t, d, 0, 2, 8)
	want(t, "Trim", s.Trim(9), api.OK)
	want(t, "Append", s.Append(c), api.OK)
	holds(t, r, 2, 8, a, b)
	holds(t, s, 2, 9, b, c)
	want(t, "Append", r.Append(a), api.OK)
	holds(t, s, 2, 9, b, c)
	opens(t, d, 0, 2, 8, a, b, a)
}

// P7.3: what a ring holds is its own, whatever is written over its blocks and whatever the power takes.
func TestHoldsWithoutDisk(t *testing.T) {
	d := fresh(t, 2)
	l := []api.Record{commit(1), patch(2, 3, 4), commit(5)}
	r, _ := open(t, d, 0, 2, 7)
	want(t, "Append", r.Append(l...), api.OK)
	want(t, "Write", d.Write(1, make([]byte, 256)), api.OK)
	holds(t, r, 2, 7, l...)
	want(t, "Crash", d.Crash(), api.OK)
	holds(t, r, 2, 7, l...)
	want(t, "Restart", d.Restart(), api.OK)
	holds(t, r, 2, 7, l...)
	opens(t, d, 0, 2, 7)
}

// P7.3, R3: a range over All that stops early, is done again, or lies within another one.
func TestAllRanges(t *testing.T) {
	roll := dice(90)
	l := roll.records(5)
	d := fresh(t, 2)
	r, _ := open(t, d, 0, 2, 14)
	want(t, "Append", r.Append(l...), api.OK)
	seq := r.All()
	for most := 1; most <= 5; most++ {
		calls := 0
		seq(func(n int64, x api.Record) bool {
			if n != 14+int64(calls) || !equal(x, l[calls]) {
				t.Fatalf("the %d-th pair is %d, %v", calls, n, x)
			}
			calls++
			return calls < most
		})
		if calls != most {
			t.Fatalf("a range that is to stop behind %d pairs tells %d", most, calls)
		}
	}
	pairs := 0
	for n := range seq {
		k := int64(14)
		for m, x := range seq {
			if m != k || !equal(x, l[m-14]) {
				t.Fatalf("within %d a range tells %d, %v", n, m, x)
			}
			k++
			pairs++
		}
	}
	if pairs != 25 {
		t.Fatalf("%d pairs", pairs)
	}
}

// R3: All tells what was there when it was asked for, whatever becomes of the ring, in the midst of a range, too.
func TestAllAsAsked(t *testing.T) {
	roll := dice(91)
	l := roll.records(6)
	d := fresh(t, 2)
	r, _ := open(t, d, 0, 2, 9)
	none := r.All()
	want(t, "Append", r.Append(l...), api.OK)
	all := r.All()
	want(t, "Trim", r.Trim(12), api.OK)
	some := r.All()
	want(t, "Append", r.Append(roll.records(5)...), api.OK)
	want(t, "Trim", r.Trim(r.Tail()), api.OK)
	want(t, "Append", r.Append(roll.records(8)...), api.OK)
	for range none {
		t.Fatal("a range over nothing tells something")
	}
	for range 2 {
		next := int64(9)
		for n, x := range all {
			if n != next || !equal(x, l[n-9]) {
				t.Fatalf("%d, %v", n, x)
			}
			next++
			want(t, "Trim", r.Trim(r.Tail()), api.OK)
			want(t, "Append", r.Append(roll.records(8)...), api.OK)
		}
		for n, x := range some {
			if n < 12 || !equal(x, l[n-9]) {
				t.Fatalf("%d, %v", n, x)
			}
			next++
		}
		if next != 9+6+3 {
			t.Fatalf("%d pairs", next-9)
		}
	}
}

// R5: a ring that no call made.
func TestNotMade(t *testing.T) {
	for _, r := range []*ring.Ring{nil, {}} {
		for _, l := range [][]api.Record{nil, {}, {commit(1)}, {{}}, {commit(1), {Kind: -1}}} {
			want(t, "Append", r.Append(l...), api.ErrMade)
		}
		want(t, "Sync", r.Sync(), api.ErrMade)
		for _, head := range []int64{math.MinInt64, -1, 0, 1, most, math.MaxInt64} {
			want(t, "Trim", r.Trim(head), api.ErrMade)
		}
		if r.Head() != 0 || r.Tail() != 0 || r.Room() != 0 {
			t.Errorf("Head %d, Tail %d, Room %d", r.Head(), r.Tail(), r.Room())
		}
		seq := r.All()
		for range 2 {
			for n, x := range seq {
				t.Errorf("All tells %d, %v", n, x)
			}
		}
	}
}

// R1: the calls of a ring end, whatever its owner makes of the disk under it.
func TestDiskThatIsGone(t *testing.T) {
	d := fresh(t, 2)
	r, _ := open(t, d, 0, 2, 8)
	want(t, "Append", r.Append(commit(1)), api.OK)
	*d = disk.Disk{}
	want(t, "Append", r.Append(commit(2)), api.ErrMade)
	want(t, "Sync", r.Sync(), api.ErrMade)
	holds(t, r, 2, 8, commit(1))
	*d = *fresh(t, 1)
	want(t, "Append", r.Append(commit(2), commit(3), commit(4), commit(5)), api.ErrPlace)
	holds(t, r, 2, 8, commit(1))
}
