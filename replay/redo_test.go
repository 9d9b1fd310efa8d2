package replay_test

import (
	"bytes"
	"math"
	"slices"
	"testing"

	"attic/api"
	"attic/replay"
)

// redone is the document's rule put another way: each byte is the last one that a patch of the block has for it, or else the page's.
func redone(page []byte, block int, l []api.Record) []byte {
	now := make([]byte, len(page))
	for at := range now {
		now[at] = page[at]
		for i := len(l) - 1; i >= 0; i-- {
			r := l[i]
			if r.Kind == 1 && r.Block == block && at >= r.Off && at < r.Off+len(r.Data) {
				now[at] = r.Data[at-r.Off]
				break
			}
		}
	}
	return now
}

// redo is Redo of what may be redone.
func redo(t *testing.T, page []byte, block int, l ...api.Record) []byte {
	t.Helper()
	now, e := replay.Redo(page, block, l...)
	want(t, "Redo", e, api.OK)
	if len(now) != 256 {
		t.Fatalf("Redo answers %d bytes", len(now))
	}
	return now
}

// refuses is Redo of what may not be redone: no page stands beside the error.
func refuses(t *testing.T, e api.Errno, page []byte, block int, l ...api.Record) {
	t.Helper()
	now, got := replay.Redo(page, block, l...)
	if got != e || now != nil {
		t.Fatalf("Redo of a page of %d bytes, block %d, %v: error %d, not %d, and %d bytes", len(page), block, briefly(l), int(got), int(e), len(now))
	}
}

// P8.2: a page has just a block's bytes; that is asked ahead of the records.
func TestRedoPages(t *testing.T) {
	for _, n := range []int{0, 1, 44, 64, 255, 257, 300, 512, 1 << 16} {
		for _, page := range [][]byte{make([]byte, n), make([]byte, n, n+256)} {
			refuses(t, api.ErrArg, page, 1)
			refuses(t, api.ErrArg, page, 1, patch(1, 0, 1))
			refuses(t, api.ErrArg, page, 1, patch(1, 0))
			refuses(t, api.ErrArg, page, 1, commit(-1))
		}
	}
	refuses(t, api.ErrArg, nil, 0)
	refuses(t, api.ErrArg, nil, 1, api.Record{})
	refuses(t, api.ErrArg, make([]byte, 255, 256), 1, patch(1, 0, 1))
	refuses(t, api.ErrArg, make([]byte, 512)[:257], 1, patch(1, 0, 1))
	d := dice(1)
	page := d.bytes(256)
	wantPage(t, "Redo of nothing", redo(t, page, 1), page)
}

// P8.2: a record that may not be, of that block and of others, wherever it stands.
func TestRedoBads(t *testing.T) {
	d := dice(2)
	page := d.bytes(256)
	l := []api.Record{patch(1, 0, 1), commit(7), patch(2, 3, 4)}
	for _, bad := range bads() {
		for _, block := range []int{-1, 0, 1, 2, 3, 2047, 2048} {
			refuses(t, api.ErrRecord, page, block, bad)
			for at := range len(l) + 1 {
				refuses(t, api.ErrRecord, page, block, slices.Insert(slices.Clone(l), at, bad)...)
			}
		}
	}
}

// P8.2: patches of each length at each place.
func TestRedoPlaces(t *testing.T) {
	page := row(256, 200)
	for n := 1; n <= 44; n++ {
		data := make([]byte, n)
		for i := range data {
			data[i] = byte(i + 1)
		}
		for off := range 256 - n + 1 {
			now := redo(t, page, 2047, patch(2047, off, data...))
			wantPage(t, "Redo", now, slices.Concat(page[:off], data, page[off+n:]))
		}
	}
	wantPage(t, "the first and the last byte", redo(t, page, 0, patch(0, 255, 1), patch(0, 0, 2)), with(with(page, 1, 255), 2, 0))
}

// P8.2: of patches one over the other the last one stands.
func TestRedoOver(t *testing.T) {
	page := make([]byte, 256)
	wantPage(t, "Redo", redo(t, page, 1, patch(1, 5, 1, 2, 3), patch(1, 6, 9)), slices.Concat(page[:5], []byte{1, 9, 3}, page[8:]))
	wantPage(t, "Redo", redo(t, page, 1, patch(1, 6, 9), patch(1, 5, 1, 2, 3)), slices.Concat(page[:5], []byte{1, 2, 3}, page[8:]))
	wantPage(t, "Redo", redo(t, page, 1, patch(1, 5, 1, 2), patch(1, 6, 3, 4)), slices.Concat(page[:5], []byte{1, 3, 4}, page[8:]))
	wantPage(t, "Redo", redo(t, page, 1, patch(1, 6, 3, 4), patch(1, 5, 1, 2)), slices.Concat(page[:5], []byte{1, 2, 4}, page[8:]))
	wantPage(t, "Redo", redo(t, page, 1, patch(1, 5, 7), patch(1, 5, 0)), page)
	wantPage(t, "Redo", redo(t, row(256, 3), 1, patch(1, 0, 3, 0)), with(row(256, 3), 0, 1))
}

// P8.2: patches of other blocks, and commits, that count or do not, change nothing.
func TestRedoOthers(t *testing.T) {
	page := row(256, 7)
	l := []api.Record{
		commit(0), patch(1, 3, 1), commit(1), patch(0, 4, 2), commit(1 << 16), patch(2047, 5, 3), commit(9),
		{Kind: api.RcCommit, Many: 1, Data: []byte{}}, patch(1, 6, 4), commit(0),
	}
	wantPage(t, "block 0", redo(t, page, 0, l...), with(page, 2, 4))
	wantPage(t, "block 1", redo(t, page, 1, l...), with(with(page, 1, 3), 4, 6))
	wantPage(t, "block 2047", redo(t, page, 2047, l...), with(page, 3, 5))
	for _, block := range []int{math.MinInt, -2048, -1, 2, 3, 257, 2046, 2048, 4095, 1 << 32, 1<<32 + 1, math.MaxInt} {
		wantPage(t, "another block", redo(t, page, block, l...), page)
		wantPage(t, "no patch", redo(t, page, block), page)
	}
}

// P8.2: of lists by chance, held against the rule put another way.
func TestRedoChance(t *testing.T) {
	d := dice(3)
	for range 400 {
		page, l := d.bytes(256), d.records(d.from(0, 40))
		for block := -1; block < 5; block++ {
			wantPage(t, "Redo", redo(t, page, block, l...), redone(page, block, l))
		}
	}
	long := d.records(200000)
	page := d.bytes(256)
	wantPage(t, "Redo of many", redo(t, page, 1, long...), redone(page, 1, long))
}

// P8.5: what was redone once is redone again without a change.
func TestTwiceIsOnce(t *testing.T) {
	d := dice(4)
	for range 400 {
		page, l := d.bytes(256), d.records(d.from(0, 40))
		once := redo(t, page, 1, l...)
		wantPage(t, "Redo again", redo(t, once, 1, l...), once)
		wantPage(t, "Redo again", redo(t, redo(t, once, 1, l...), 1, l...), once)
	}
}

// P8.7: a block's page hangs on the block's own patches alone, in their order.
func TestOtherBlocks(t *testing.T) {
	d := dice(5)
	for range 400 {
		page, l := d.bytes(256), d.records(d.from(0, 40))
		var its, others []api.Record
		for _, r := range l {
			if r.Kind == api.RcPatch && r.Block == 1 {
				its = append(its, r)
			} else {
				others = append(others, r)
			}
		}
		wantPage(t, "patches of other blocks", redo(t, page, 1, others...), page)
		now := redo(t, page, 1, l...)
		wantPage(t, "its own patches", redo(t, page, 1, its...), now)
		wantPage(t, "its own patches ahead", redo(t, page, 1, slices.Concat(its, others)...), now)
		wantPage(t, "its own patches behind", redo(t, page, 1, slices.Concat(others, its)...), now)
	}
}

// P8.7: what is redone in two parts, cut wherever one will, is what is redone at once.
func TestTwoParts(t *testing.T) {
	d := dice(6)
	for range 100 {
		page, l := d.bytes(256), d.records(d.from(0, 25))
		now := redo(t, page, 1, l...)
		for at := range len(l) + 1 {
			wantPage(t, "Redo in two parts", redo(t, redo(t, page, 1, l[:at]...), 1, l[at:]...), now)
		}
	}
}

// blocksOf is the document's rule put another way: each time the least one above the one before.
func blocksOf(l []api.Record) []int {
	var out []int
	for {
		least, is := 0, false
		for _, r := range l {
			if r.Kind == 1 && (len(out) == 0 || r.Block > out[len(out)-1]) && (!is || r.Block < least) {
				least, is = r.Block, true
			}
		}
		if !is {
			return out
		}
		out = append(out, least)
	}
}

func wantBlocks(t *testing.T, l []api.Record, want []int) {
	t.Helper()
	seq := replay.Blocks(l...)
	for range 2 {
		if got := slices.Collect(seq); !slices.Equal(got, want) {
			t.Fatalf("Blocks of %v: %v, not %v", briefly(l), got, want)
		}
	}
}

// P8.2: Blocks at the edges that the document names.
func TestBlocksEdges(t *testing.T) {
	wantBlocks(t, nil, nil)
	wantBlocks(t, []api.Record{commit(0), commit(5), {Kind: api.RcCommit, Block: 4}, {}, {Block: 3}, {Kind: 3, Block: 6, Data: []byte{1}}, {Kind: -1, Block: 7}}, nil)
	wantBlocks(t, []api.Record{patch(5, 0, 1)}, []int{5})
	wantBlocks(t, []api.Record{patch(5, 0, 1), patch(5, 0, 1), commit(2), patch(5, 7, 8), patch(5, 255, 9)}, []int{5})
	wantBlocks(t, []api.Record{patch(9, 0, 1), patch(7, 0, 1), patch(4, 0, 1), commit(3), patch(2, 0, 1), patch(0, 0, 1)}, []int{0, 2, 4, 7, 9})
	wantBlocks(t, []api.Record{patch(2047, 0, 1), patch(0, 0, 1), patch(2047, 0, 1), patch(0, 0, 1), patch(1, 0, 1)}, []int{0, 1, 2047})
	wantBlocks(t, []api.Record{patch(3, 0, 1), patch(1, 0, 1), patch(3, 0, 1), patch(2, 0, 1), patch(1, 0, 1)}, []int{1, 2, 3})
	// Behind a commit that does not count, and with none, they are patches all the same.
	wantBlocks(t, []api.Record{patch(3, 0, 1), commit(9), patch(1, 0, 1), {}, patch(2, 0, 1)}, []int{1, 2, 3})
}

// P8.2: Blocks goes by the kind alone: patches that may not be are patches, too, of blocks that there cannot be.
func TestBlocksBads(t *testing.T) {
	for _, block := range []int{math.MinInt, math.MinInt + 1, -2048, -1, 0, 1, 2047, 2048, 1 << 32, math.MaxInt - 1, math.MaxInt} {
		for _, r := range badPatches(block) {
			wantBlocks(t, []api.Record{r}, []int{block})
			wantBlocks(t, []api.Record{commit(1), r, {Kind: 3, Block: 8}, r}, []int{block})
		}
	}
	l := []api.Record{patch(math.MaxInt, 0), patch(3, 0, 1), patch(math.MinInt, 0, 1), patch(-1, 0, 1), patch(2048, -1), patch(math.MinInt, 0)}
	wantBlocks(t, l, []int{math.MinInt, -1, 3, 2048, math.MaxInt})
	wantBlocks(t, bads(), blocksOf(bads()))
}

// P8.2: Blocks of lists by chance; THE BOUND: of very many blocks, too.
func TestBlocksChance(t *testing.T) {
	d := dice(7)
	for range 400 {
		var l []api.Record
		for range d.from(0, 40) {
			l = append(l, api.Record{Kind: d.from(0, 3), Block: d.from(-5, 12), Off: d.from(-1, 3), Data: d.bytes(d.from(0, 3))})
		}
		wantBlocks(t, l, blocksOf(l))
	}
	var l []api.Record
	var rising []int
	for i := range 200000 {
		l = append(l, patch(-i, 0))
		rising = append(rising, i-199999)
	}
	wantBlocks(t, append(slices.Clone(l), l...), rising)
}

// P8.2, R3: a range over Blocks that stops, lies within another one, or is done again.
func TestBlocksRanges(t *testing.T) {
	seq := replay.Blocks(patch(4, 0, 1), patch(2, 0, 1), patch(4, 0, 1), patch(9, 0, 1))
	all := []int{2, 4, 9}
	for most := 1; most <= 3; most++ {
		var got []int
		seq(func(block int) bool {
			got = append(got, block)
			return len(got) < most
		})
		if !slices.Equal(got, all[:most]) {
			t.Fatalf("a range that is to stop behind %d blocks tells %v", most, got)
		}
	}
	pairs := 0
	for range seq {
		if got := slices.Collect(seq); !slices.Equal(got, all) {
			t.Fatalf("a range within another one tells %v", got)
		}
		pairs++
	}
	if pairs != 3 {
		t.Fatalf("%d blocks", pairs)
	}
	replay.Blocks()(func(int) bool {
		t.Error("Blocks of nothing tells something")
		return true
	})
}

// P8.2, P8.7: each of a list's blocks redone makes what a disk of all blocks becomes patch by patch.
func TestRedoDisk(t *testing.T) {
	d := dice(8)
	l := d.records(60)
	var pages, straight [5][]byte
	for i := range pages {
		pages[i] = d.bytes(256)
		straight[i] = bytes.Clone(pages[i])
	}
	for _, r := range l {
		if r.Kind == api.RcPatch {
			copy(straight[r.Block][r.Off:], r.Data)
		}
	}
	for block := range replay.Blocks(l...) {
		pages[block] = redo(t, pages[block], block, l...)
	}
	for i := range pages {
		wantPage(t, "a block", pages[i], straight[i])
	}
}
