package replay_test

import (
	"math"
	"slices"
	"testing"

	"attic/api"
	"attic/record"
	"attic/replay"
)

// begins are where the pieces of a page begin, and where the last one ends.
var begins = []int{0, 44, 88, 132, 176, 220, 256}

// isCut tells whether a byte is one of a patch: in its piece there is an unlike byte at it or ahead, and one at it or behind.
func isCut(old, now []byte, at int) bool {
	ahead, behind := false, false
	for i := range old {
		if i/44 == at/44 && old[i] != now[i] {
			ahead = ahead || i <= at
			behind = behind || i >= at
		}
	}
	return ahead && behind
}

// cuts is the document's rule put another way, byte by byte.
func cuts(block int, old, now []byte) []api.Record {
	var out []api.Record
	for at := range old {
		if !isCut(old, now, at) {
			continue
		}
		if at%44 == 0 || !isCut(old, now, at-1) {
			out = append(out, patch(block, at))
		}
		last := &out[len(out)-1]
		last.Data = append(last.Data, now[at])
	}
	return out
}

// cut is Cut of what may be cut: its patches may be, and lie in the pieces, one a piece at most.
func cut(t *testing.T, block int, old, now []byte) []api.Record {
	t.Helper()
	l, e := replay.Cut(block, old, now)
	want(t, "Cut", e, api.OK)
	if len(l) > 6 {
		t.Fatalf("%d patches", len(l))
	}
	piece := -1
	for _, r := range l {
		if !mayBe(r) || record.Check(r) != api.OK || r.Kind != api.RcPatch || r.Off/44 <= piece || (r.Off+len(r.Data)-1)/44 != r.Off/44 {
			t.Fatalf("Cut: %v", briefly(l))
		}
		piece = r.Off / 44
	}
	return l
}

// goes holds Cut against the rule put another way, there and back.
func goes(t *testing.T, block int, old, now []byte) {
	t.Helper()
	for _, x := range [][2][]byte{{old, now}, {now, old}} {
		l := cut(t, block, x[0], x[1])
		wantList(t, "Cut", l, cuts(block, x[0], x[1]))
		wantPage(t, "Redo of Cut", redo(t, x[0], block, l...), x[1])
		wantPage(t, "Redo of Cut of what it is already", redo(t, x[1], block, l...), x[1])
	}
}

// P8.3: the errors, beside which there is no list.
func TestCutWrong(t *testing.T) {
	page, other := make([]byte, 256), row(256, 1)
	refused := func(block int, old, now []byte) {
		t.Helper()
		if l, e := replay.Cut(block, old, now); e != api.ErrArg || l != nil {
			t.Errorf("Cut of block %d, %d and %d bytes: error %d, %d patches", block, len(old), len(now), int(e), len(l))
		}
	}
	for _, block := range []int{math.MinInt, math.MinInt + 1, -2048, -2, -1, 2048, 2049, 4096, 1 << 32, math.MaxInt - 1, math.MaxInt} {
		refused(block, page, other)
		refused(block, page, page)
		refused(block, nil, nil)
	}
	for _, n := range []int{0, 1, 44, 220, 255, 257, 300, 512, 1 << 16} {
		for _, block := range []int{-1, 0, 2047, 2048} {
			refused(block, page, make([]byte, n))
			refused(block, make([]byte, n), page)
			refused(block, make([]byte, n), row(n, 1))
			refused(block, make([]byte, n, n+256), page)
			refused(block, page, make([]byte, n, n+256))
		}
	}
	refused(0, nil, nil)
	refused(0, page, nil)
	refused(0, nil, page)
	refused(0, make([]byte, 0), make([]byte, 0))
}

// P8.3: the blocks that may be, each in all patches.
func TestCutBlocks(t *testing.T) {
	old, now := make([]byte, 256), row(256, 1)
	for _, block := range []int{0, 1, 2, 255, 256, 2046, 2047} {
		l := cut(t, block, old, now)
		if len(l) != 6 {
			t.Fatalf("%d patches", len(l))
		}
		for i, r := range l {
			if r.Block != block || r.Off != begins[i] || r.Many != 0 {
				t.Fatalf("the patch %d is %v", i, briefly(l[i:]))
			}
		}
		goes(t, block, old, now)
	}
}

// P8.3, P8.4: pages that do not differ have no patch.
func TestCutSame(t *testing.T) {
	d := dice(11)
	for _, page := range [][]byte{make([]byte, 256), row(256, 255), d.bytes(256)} {
		for _, block := range []int{0, 9, 2047} {
			if l := cut(t, block, page, slices.Clone(page)); len(l) != 0 {
				t.Errorf("%d patches", len(l))
			}
			if l := cut(t, block, page, page); len(l) != 0 {
				t.Errorf("%d patches", len(l))
			}
		}
	}
}

// P8.3: pages that differ in one byte, wherever it is, and whatever bits of it do.
func TestCutOneByte(t *testing.T) {
	d := dice(12)
	old := d.bytes(256)
	for at := range 256 {
		for _, bits := range []byte{1, 128, 255} {
			now := with(old, old[at]^bits, at)
			wantList(t, "Cut", cut(t, 3, old, now), []api.Record{patch(3, at, now[at])})
			goes(t, 3, old, now)
		}
	}
}

// P8.3: the first and the last byte of each piece, alone and together.
func TestCutPieceEnds(t *testing.T) {
	old := row(256, 5)
	for i, first := range begins[:6] {
		last := begins[i+1] - 1
		wantList(t, "its first byte", cut(t, 3, old, with(old, 6, first)), []api.Record{patch(3, first, 6)})
		wantList(t, "its last byte", cut(t, 3, old, with(old, 6, last)), []api.Record{patch(3, last, 6)})
		both := cut(t, 3, old, with(old, 6, first, last))
		inner := row(last-first-1, 5)
		wantList(t, "both", both, []api.Record{patch(3, first, slices.Concat([]byte{6}, inner, []byte{6})...)})
		goes(t, 3, old, with(old, 6, first, last))
	}
	firsts, lasts := begins[:6], []int{43, 87, 131, 175, 219, 255}
	for _, at := range [][]int{firsts, lasts} {
		l := cut(t, 3, old, with(old, 6, at...))
		var want []api.Record
		for _, i := range at {
			want = append(want, patch(3, i, 6))
		}
		wantList(t, "a byte of each piece", l, want)
	}
	goes(t, 3, old, with(old, 6, append(lasts, firsts...)...))
}

// P8.3: bytes on both sides of each place at which a piece begins.
func TestCutSides(t *testing.T) {
	old := row(256, 5)
	for _, begin := range begins[1:6] {
		now := with(old, 6, begin-1, begin)
		wantList(t, "both sides", cut(t, 3, old, now), []api.Record{patch(3, begin-1, 6), patch(3, begin, 6)})
		now = with(old, 6, begin-2, begin+1)
		wantList(t, "a byte from both sides", cut(t, 3, old, now), []api.Record{patch(3, begin-2, 6), patch(3, begin+1, 6)})
		now = with(old, 6, begin-3, begin-1, begin, begin+2)
		wantList(t, "two bytes on both sides", cut(t, 3, old, now), []api.Record{patch(3, begin-3, 6, 5, 6), patch(3, begin, 6, 5, 6)})
		goes(t, 3, old, now)
	}
}

// P8.3: all bytes.
func TestCutAllBytes(t *testing.T) {
	old, now := make([]byte, 256), make([]byte, 256)
	for i := range now {
		old[i], now[i] = byte(i), byte(i+1)
	}
	var want []api.Record
	for i, first := range begins[:6] {
		want = append(want, patch(2047, first, now[first:begins[i+1]]...))
	}
	wantList(t, "Cut", cut(t, 2047, old, now), want)
	goes(t, 2047, old, now)
}

// P8.3: each span of unlike bytes, over as many pieces as it may reach.
func TestCutSpans(t *testing.T) {
	old := make([]byte, 256)
	for from := range 256 {
		for to := from; to < 256; to += 7 {
			now := slices.Concat(old[:from], row(to-from+1, 9), old[to+1:])
			goes(t, 4, old, now)
			goes(t, 4, old, with(old, 9, from, to))
		}
	}
}

// changed is a page of which some bytes, few or many, are others.
func (d *dice) changed(page []byte) []byte {
	now := slices.Clone(page)
	for range d.from(0, 1<<d.from(0, 8)) {
		now[d.from(0, 255)] = byte(d.from(0, 3))
	}
	return now
}

// P8.3, P8.4: of pages by chance.
func TestCutChance(t *testing.T) {
	d := dice(13)
	for range 1000 {
		old := d.bytes(256)
		if d.from(0, 1) == 0 {
			old = d.changed(make([]byte, 256))
		}
		goes(t, d.from(0, 2047), old, d.changed(old))
	}
}

// mixed is a page of which each byte is old's or now's, as pick says.
func mixed(old, now []byte, pick func(at int) bool) []byte {
	out := slices.Clone(old)
	for at := range out {
		if pick(at) {
			out[at] = now[at]
		}
	}
	return out
}

// P8.4: a page that was torn, sector by sector or byte by byte, comes back by the patches from old to now.
func TestTorn(t *testing.T) {
	d := dice(14)
	for range 60 {
		old := d.bytes(256)
		now := d.changed(old)
		l := cut(t, 6, old, now)
		for sectors := range 16 {
			torn := mixed(old, now, func(at int) bool { return sectors>>(at/64)&1 == 1 })
			wantPage(t, "a page torn by sectors", redo(t, torn, 6, l...), now)
		}
		for end := range 257 {
			torn := mixed(old, now, func(at int) bool { return at < end })
			wantPage(t, "a page of which a beginning was written", redo(t, torn, 6, l...), now)
			torn = mixed(old, now, func(at int) bool { return at >= end })
			wantPage(t, "a page of which an end was written", redo(t, torn, 6, l...), now)
		}
		for range 30 {
			torn := mixed(old, now, func(int) bool { return d.from(0, 1) == 1 })
			wantPage(t, "a page torn byte by byte", redo(t, torn, 6, l...), now)
		}
	}
}

// P8.4, P8.7: pages that change in several transactions come back by all the patches in their order, however they were torn.
func TestTornTwice(t *testing.T) {
	d := dice(15)
	for range 100 {
		a := d.bytes(256)
		b := d.changed(a)
		c := d.changed(b)
		l := slices.Concat(cut(t, 6, a, b), cut(t, 6, b, c))
		wantPage(t, "Redo of both", redo(t, a, 6, l...), c)
		torn := mixed(mixed(a, b, func(int) bool { return d.from(0, 1) == 1 }), c, func(int) bool { return d.from(0, 1) == 1 })
		wantPage(t, "Redo of both", redo(t, torn, 6, l...), c)
	}
}

// P8.1, P8.3: what Cut answers counts, behind as many patches' commit.
func TestCutCommitted(t *testing.T) {
	d := dice(16)
	for range 100 {
		old := d.bytes(256)
		l := cut(t, 6, old, d.changed(old))
		counts(t, append(slices.Clone(l), commit(len(l))), l, len(l)+1)
	}
}
