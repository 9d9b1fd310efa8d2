package replay_test

import (
	"bytes"
	"slices"
	"testing"

	"attic/api"
	"attic/replay"
)

// spoil writes over all that a list of records has, and over the room behind it.
func spoil(l []api.Record) {
	for i := range l {
		for k := range l[i].Data[:cap(l[i].Data)] {
			l[i].Data[:cap(l[i].Data)][k] ^= 0xff
		}
		l[i] = api.Record{Kind: 9}
	}
}

// handed is a list whose Data lie in one row of bytes, with room behind them, and room behind the list.
func handed(room []byte) []api.Record {
	l := make([]api.Record, 0, 20)
	return append(l,
		patch(1, 0, room[:20]...),
		patch(1, 236, room[10:30]...),
		api.Record{Kind: api.RcPatch, Block: 2, Off: 5, Data: room[30:31]},
		commit(3),
		patch(1, 250, room[40:46]...),
		api.Record{Kind: api.RcCommit, Many: 1, Data: room[50:50]},
		commit(2),
		patch(3, 4, room[60:104:104]...),
	)
}

// R3: what is handed in is not written to, nor is the room behind it.
func TestHandedIn(t *testing.T) {
	d := dice(21)
	room, pages := d.bytes(200), d.bytes(700)
	l := handed(room)
	firstRoom, firstPages, before := bytes.Clone(room), bytes.Clone(pages), own(l)
	page, now := pages[100:356], pages[356:612]
	calls := func() {
		replay.Committed(l...)
		replay.Redo(page, 1, l...)
		replay.Redo(page, 3, l...)
		replay.Redo(pages, 1, l...)
		replay.Redo(page, 1, append(l, api.Record{})...)
		for range replay.Blocks(l...) {
		}
		replay.Cut(4, page, now)
		replay.Cut(4, now, page)
		replay.Cut(-1, page, now)
	}
	for range 2 {
		calls()
		wantList(t, "the list that was handed in", l, before)
		if !bytes.Equal(room, firstRoom) || !bytes.Equal(pages, firstPages) {
			t.Fatal("the bytes that were handed in were written to")
		}
		for _, r := range l[len(l):cap(l)][1:] {
			if !equal(r, api.Record{}) {
				t.Fatal("the room behind the list was written to")
			}
		}
	}
}

// R3: what Committed answers is nobody's else.
func TestCommittedIsOwn(t *testing.T) {
	d := dice(22)
	room := d.bytes(200)
	l := handed(room)
	before := own(l)
	patches := []api.Record{before[0], before[1], before[2], before[4]}
	a, n := replay.Committed(l...)
	b, _ := replay.Committed(l...)
	if n != 6 {
		t.Fatalf("%d records", n)
	}
	spoil(a[:cap(a)])
	wantList(t, "the list that was handed in", l, before)
	wantList(t, "another answer", b, patches)
	a = append(b[:1], patch(7, 7, 7))
	a[0].Data = append(a[0].Data, 1, 2, 3)
	wantList(t, "the list that was handed in", l, before)

	b, _ = replay.Committed(l...)
	clear(room)
	spoil(l)
	wantList(t, "an answer whose list was changed", b, patches)
}

// R3: no two patches of one answer share their bytes, though they were handed in so.
func TestCommittedApart(t *testing.T) {
	data := []byte{1, 2, 3}
	l, _ := replay.Committed(patch(1, 0, data...), patch(2, 0, data...), commit(2))
	for i := range l[0].Data[:cap(l[0].Data)] {
		l[0].Data[:cap(l[0].Data)][i] = 9
	}
	l[0].Data = append(l[0].Data, 9, 9, 9)
	wantList(t, "the second patch", l[1:], []api.Record{patch(2, 0, 1, 2, 3)})
}

// R3: the page that Redo answers is nobody's else, where nothing was laid into it, too.
func TestRedoIsOwn(t *testing.T) {
	d := dice(23)
	room := d.bytes(44)
	for _, l := range [][]api.Record{nil, {commit(1)}, {patch(2, 0, 1)}, {patch(1, 7, room...)}} {
		pages := d.bytes(600)
		page := pages[100:356]
		first, data := bytes.Clone(pages), bytes.Clone(room)
		a := redo(t, page, 1, l...)
		was := bytes.Clone(a)
		b := redo(t, page, 1, l...)
		for i := range a[:cap(a)] {
			a[:cap(a)][i] ^= 0xff
		}
		a = append(a, 1, 2, 3)
		if len(a) != 259 || !bytes.Equal(pages, first) || !bytes.Equal(room, data) {
			t.Fatal("what was handed in goes with the answer")
		}
		wantPage(t, "another answer", b, was)
		clear(pages)
		for i := range room {
			room[i] ^= 0xff
		}
		wantPage(t, "an answer whose page was changed", b, was)
	}
}

// R3: a patch's Data may lie in the very page that is redone.
func TestRedoOfItself(t *testing.T) {
	d := dice(24)
	page := d.bytes(256)
	first := bytes.Clone(page)
	l := []api.Record{
		{Kind: api.RcPatch, Block: 1, Off: 1, Data: page[:44]},
		{Kind: api.RcPatch, Block: 1, Off: 20, Data: page[:44]},
	}
	wantPage(t, "Redo", redo(t, page, 1, l...), slices.Concat(first[:1], first[:19], first[:44], first[64:]))
	wantPage(t, "the page", page, first)
}

// R3: what Cut answers is nobody's else, and no two of its patches share their bytes.
func TestCutIsOwn(t *testing.T) {
	d := dice(25)
	pages := d.bytes(800)
	old, now := pages[:256], pages[256:512]
	first := bytes.Clone(pages)
	a, b := cut(t, 5, old, now), cut(t, 5, old, now)
	was := own(a)
	for i := range a {
		spoil(a[i : i+1])
		wantList(t, "the other patches", a[i+1:], was[i+1:])
	}
	if !bytes.Equal(pages, first) {
		t.Fatal("what was handed in goes with the answer")
	}
	wantList(t, "another answer", b, was)
	for i := range b[:5] {
		b[i].Data = append(b[i].Data, 1, 2, 3, 4)
		wantList(t, "the other patches", b[i+1:], was[i+1:])
	}
	b = cut(t, 5, old, now)
	clear(pages)
	wantList(t, "an answer whose pages were changed", b, was)
}

// R3: Blocks tells what was there when it was asked for.
func TestBlocksAsAsked(t *testing.T) {
	l := []api.Record{patch(4, 0, 1), patch(2, 0, 1), patch(9, 0, 1)}
	seq := replay.Blocks(l...)
	l[0].Block, l[1].Kind, l[2] = 7, api.RcCommit, api.Record{}
	for range 2 {
		var got []int
		for block := range seq {
			got = append(got, block)
			l[0].Block--
		}
		if !slices.Equal(got, []int{2, 4, 9}) {
			t.Fatalf("Blocks tells %v", got)
		}
	}
}

// R4: no records, and no Data, are the same as nil.
func TestNone(t *testing.T) {
	page := row(256, 3)
	for _, l := range [][]api.Record{nil, {}} {
		counts(t, l, nil, 0)
		wantPage(t, "Redo", redo(t, page, 1, l...), page)
		wantBlocks(t, l, nil)
	}
	for _, data := range [][]byte{nil, {}, make([]byte, 0, 9)} {
		c := api.Record{Kind: api.RcCommit, Many: 1, Data: data}
		p := api.Record{Kind: api.RcPatch, Block: 1, Data: data}
		counts(t, []api.Record{patch(1, 0, 1), c}, []api.Record{patch(1, 0, 1)}, 2)
		counts(t, []api.Record{p, c}, nil, 0)
		wantPage(t, "Redo", redo(t, page, 1, c), page)
		refuses(t, api.ErrRecord, page, 1, p)
		wantBlocks(t, []api.Record{c, p}, []int{1})
	}
}

// R6: the same calls answer the same.
func TestAgain(t *testing.T) {
	d := dice(26)
	old := d.bytes(256)
	now := d.changed(old)
	l := d.sound(3, 5)
	patches, n := committed(l)
	page, pieces := redone(old, 1, l), cuts(1, old, now)
	for range 3 {
		counts(t, l, patches, n)
		wantPage(t, "Redo", redo(t, old, 1, l...), page)
		wantBlocks(t, l, blocksOf(l))
		wantList(t, "Cut", cut(t, 1, old, now), pieces)
	}
}
