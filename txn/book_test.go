package txn_test

import (
	"bytes"
	"maps"
	"math"
	"slices"
	"testing"

	"attic/api"
	"attic/disk"
	"attic/geom"
	"attic/record"
	"attic/super"
	"attic/txn"
)

const most = 1 << 60 // MaxEpoch and MaxHead

// sectorOf is the bytes with which a record stands at a number.
func sectorOf(t *testing.T, n int64, x api.Record) []byte {
	t.Helper()
	b, e := record.Bytes(n, x)
	want(t, "Bytes of a record", e, api.OK)
	return b
}

// blockOf is the bytes of a super's block.
func blockOf(t *testing.T, s api.Super) []byte {
	t.Helper()
	b, e := super.Bytes(s)
	want(t, "Bytes of a super", e, api.OK)
	return b
}

// book is the document's store put another way: without a ring, a cache and a replay, on a disk of its own.
type book struct {
	t          *testing.T
	d          *disk.Disk
	s          api.Super
	tail       int64
	open, lost bool
	wrote      map[int]map[int]byte // by block, by byte
}

func (k *book) lap() int64 { return int64(4 * k.s.G.Log) }

// sectorAt is where the record of a number stands.
func sectorAt(g api.Geometry, n int64) (block, at int) {
	i := int(n % int64(4*g.Log))
	return 3 + i/4, 64 * (i % 4)
}

func note(t *testing.T, d *disk.Disk, s api.Super) api.Errno {
	t.Helper()
	if e := d.Write(int(s.Epoch%2), blockOf(t, s)); e != api.OK {
		return e
	}
	return d.Flush()
}

// writeFormat is Format put another way.
func writeFormat(t *testing.T, d *disk.Disk, g api.Geometry) api.Errno {
	t.Helper()
	if d.Len() == 0 {
		return api.ErrMade
	}
	if !d.On() {
		return api.ErrPower
	}
	if e := geom.Check(g); e != api.OK {
		return e
	}
	if d.Len() != g.Blocks {
		return api.ErrArg
	}
	_, heap, _ := areas(g)
	for block := range heap {
		if block == 2 {
			if e := d.Flush(); e != api.OK {
				return e
			}
		}
		if e := d.Write(block, make([]byte, 256)); e != api.OK {
			return e
		}
	}
	if e := d.Flush(); e != api.OK {
		return e
	}
	return note(t, d, api.Super{Epoch: 2, G: g, Head: int64(4 * g.Log)})
}

// standing is the record that stands as a number, and whether there is one.
func (k *book) standing(n int64) (api.Record, bool) {
	block, at := sectorAt(k.s.G, n)
	b, _ := k.d.Read(block)
	x, e := record.Take(b[at:at+64], n)
	return x, e == api.OK
}

// openBook is Open put another way.
func openBook(t *testing.T, d *disk.Disk) (*book, api.Errno) {
	t.Helper()
	if d.Len() == 0 {
		return nil, api.ErrMade
	}
	if !d.On() {
		return nil, api.ErrPower
	}
	a, _ := d.Read(0)
	b, e := d.Read(1)
	if e != api.OK {
		return nil, api.ErrCorrupt
	}
	s, e := super.Choose(a, b)
	if e != api.OK || s.G.Blocks != d.Len() {
		return nil, api.ErrCorrupt
	}
	k := &book{t: t, d: d, s: s, tail: s.Head, wrote: map[int]map[int]byte{}}
	var waits, counts []api.Record
	counting := true
	for x, ok := k.standing(k.tail); ok && k.tail < s.Head+k.lap(); x, ok = k.standing(k.tail) {
		k.tail++
		switch {
		case x.Kind == api.RcPatch:
			waits = append(waits, x)
		case x.Many != len(waits):
			counting = false
		case counting:
			counts = append(counts, waits...)
			waits = nil
		}
	}
	for _, x := range counts {
		if !slices.Contains(usable(s.G), x.Block) {
			return nil, api.ErrCorrupt
		}
	}
	if s.Epoch == most || k.tail+k.lap() > most {
		return nil, api.ErrFull
	}
	if _, ok := k.standing(k.tail + k.lap()); ok {
		return nil, api.ErrCorrupt
	}
	return k, k.redo(counts)
}

// redo is what Open does to the disk.
func (k *book) redo(l []api.Record) api.Errno {
	for block := range k.d.Len() {
		old, _ := k.d.Read(block)
		now := bytes.Clone(old)
		for _, x := range l {
			if x.Block == block {
				copy(now[x.Off:], x.Data)
			}
		}
		if bytes.Equal(old, now) {
			continue
		}
		if e := k.d.Write(block, now); e != api.OK {
			return e
		}
	}
	if e := k.d.Flush(); e != api.OK {
		return e
	}
	k.s.Epoch++
	k.s.Head = k.tail + k.lap()
	k.tail = k.s.Head
	return note(k.t, k.d, k.s)
}

// power is ErrPower once a call has seen that the power is gone.
func (k *book) power() api.Errno {
	k.lost = k.lost || !k.d.On()
	if k.lost {
		return api.ErrPower
	}
	return api.OK
}

func (k *book) begin() api.Errno {
	e := k.power()
	if e == api.OK && k.open {
		e = api.ErrBusy
	}
	k.open = k.open || e == api.OK
	return e
}

func (k *book) inTxn() api.Errno {
	e := k.power()
	if e == api.OK && !k.open {
		e = api.ErrTxn
	}
	return e
}

func (k *book) end() { k.open, k.wrote = false, map[int]map[int]byte{} }

func (k *book) abort() api.Errno {
	e := k.inTxn()
	if e == api.OK {
		k.end()
	}
	return e
}

func (k *book) wrong(block, off, n int) bool {
	return !slices.Contains(usable(k.s.G), block) || off < 0 || n < 0 || off > 256 || n > 256 || off+n > 256
}

func (k *book) page(block int) []byte {
	b, e := k.d.Read(block)
	want(k.t, "Read of a block", e, api.OK)
	for at, c := range k.wrote[block] {
		b[at] = c
	}
	return b
}

func (k *book) read(block, off, n int) ([]byte, api.Errno) {
	if e := k.power(); e != api.OK {
		return nil, e
	}
	if k.wrong(block, off, n) {
		return nil, api.ErrArg
	}
	return k.page(block)[off : off+n], api.OK
}

func (k *book) write(block, off int, b []byte) api.Errno {
	if e := k.inTxn(); e != api.OK {
		return e
	}
	if k.wrong(block, off, len(b)) {
		return api.ErrArg
	}
	for i, c := range b {
		if k.wrote[block] == nil {
			k.wrote[block] = map[int]byte{}
		}
		k.wrote[block][off+i] = c
	}
	return api.OK
}

func (k *book) changed() []int { return slices.Sorted(maps.Keys(k.wrote)) }

// cut is the patches of a block: at its bytes from 44 i on, up to the next ones.
func (k *book) cut(block int) []api.Record {
	old, _ := k.d.Read(block)
	now := k.page(block)
	var l []api.Record
	for from := 0; from < 256; from += 44 {
		first, last := -1, -1
		for i := from; i < from+44 && i < 256; i++ {
			if old[i] != now[i] {
				if first < 0 {
					first = i
				}
				last = i
			}
		}
		if first >= 0 {
			l = append(l, api.Record{Kind: api.RcPatch, Block: block, Off: first, Data: now[first : last+1]})
		}
	}
	return l
}

func (k *book) commit() api.Errno {
	e := k.inTxn()
	if e == api.OK {
		e = k.all()
	}
	k.lost = k.lost || e == api.ErrPower
	k.end()
	return e
}

// all is a Commit that may be.
func (k *book) all() api.Errno {
	var l []api.Record
	pages := map[int][]byte{}
	var blocks []int
	for _, block := range k.changed() {
		if cut := k.cut(block); len(cut) > 0 {
			l = append(l, cut...)
			pages[block] = k.page(block)
			blocks = append(blocks, block)
		}
	}
	if len(l) == 0 {
		return api.OK
	}
	n := int64(len(l) + 1)
	if n > k.lap() {
		return api.ErrLog
	}
	if k.tail+n > k.s.Head+k.lap() {
		if e := k.check(); e != api.OK {
			return e
		}
	}
	if k.tail+n > most {
		return api.ErrFull
	}
	if e := k.lay(append(l, api.Record{Kind: api.RcCommit, Many: len(l)})); e != api.OK {
		return e
	}
	for _, block := range blocks {
		if e := k.d.Write(block, pages[block]); e != api.OK {
			return e
		}
	}
	return api.OK
}

// lay writes records behind the log's last one, and flushes: a write for each block, and one more if they come round to it.
func (k *book) lay(l []api.Record) api.Errno {
	for i := 0; i < len(l); {
		block, _ := sectorAt(k.s.G, k.tail)
		b, _ := k.d.Read(block)
		for ; i < len(l); i++ {
			in, at := sectorAt(k.s.G, k.tail)
			if in != block {
				break
			}
			copy(b[at:], sectorOf(k.t, k.tail, l[i]))
			k.tail++
		}
		if e := k.d.Write(block, b); e != api.OK {
			return e
		}
	}
	return k.d.Flush()
}

func (k *book) checkpoint() api.Errno {
	if e := k.power(); e != api.OK {
		return e
	}
	if k.open {
		return api.ErrBusy
	}
	e := k.check()
	k.lost = e == api.ErrPower
	return e
}

func (k *book) check() api.Errno {
	if k.tail == k.s.Head {
		return api.OK
	}
	if e := k.d.Flush(); e != api.OK {
		return e
	}
	if k.s.Epoch == most || k.tail > most {
		return api.ErrFull
	}
	k.s.Epoch++
	k.s.Head = k.tail
	return note(k.t, k.d, k.s)
}

// pair is a store and its book, with a disk each, and how often each call has had each answer.
type pair struct {
	t    *testing.T
	d    *disk.Disk
	s    *txn.Store
	k    *book
	seen map[answer]int
}

type answer struct {
	call string
	e    api.Errno
}

// same holds that both have answered the same.
func (p *pair) same(call string, got, wanted api.Errno) {
	p.t.Helper()
	want(p.t, call, got, wanted)
	p.seen[answer{call, got}]++
}

// holds looks at all that the store and its disk show.
func (p *pair) holds() {
	p.t.Helper()
	held := int(p.k.tail - p.k.s.Head)
	if p.k.power() != api.OK {
		held = p.s.Held() // a log that the power has cut off holds whatever it will
	}
	holds(p.t, p.s, p.k.open, held, p.k.changed()...)
	faceOf(p.k.d).stays(p.t, p.d)
}

// open opens both anew; where they are refused, there is a new store on both.
func (p *pair) open(g api.Geometry) {
	p.t.Helper()
	s, e := txn.Open(p.d)
	k, f := openBook(p.t, p.k.d)
	p.same("Open", e, f)
	if e != api.OK && e != api.ErrPower {
		p.same("Format", txn.Format(p.d, g), writeFormat(p.t, p.k.d, g))
		s, e = txn.Open(p.d)
		k, f = openBook(p.t, p.k.d)
		p.same("Open", e, f)
	}
	if e == api.OK {
		p.s, p.k = s, k
	}
}

// edit is bytes somewhere, most often where they may stand.
func (p *pair) edit(r *dice) edit {
	blocks := usable(p.k.s.G)
	x := edit{block: blocks[r.from(0, len(blocks)-1)], off: r.from(0, 256)}
	switch r.from(0, 9) {
	case 0:
		x.off = r.from(-2, 258)
		x.b = r.bytes(r.from(0, 258))
	case 1:
		x.block = r.from(-1, p.d.Len())
	case 2:
		x.block = []int{math.MinInt, math.MaxInt, 1 << 32}[r.from(0, 2)]
	case 3, 4:
		x.off = 0
		x.b = r.bytes(256)
	default:
		x.b = r.bytes(r.from(0, min(60, 256-x.off)))
	}
	return x
}

func (p *pair) read(x edit) {
	p.t.Helper()
	b, e := p.s.Read(x.block, x.off, len(x.b))
	w, f := p.k.read(x.block, x.off, len(x.b))
	p.same("Read", e, f)
	if !bytes.Equal(b, w) {
		p.t.Fatalf("Read(%d, %d, %d): %v, not %v", x.block, x.off, len(x.b), b, w)
	}
}

// step does the same to the store and to its book.
func (p *pair) step(r *dice, g api.Geometry) {
	p.t.Helper()
	x, picks := p.edit(r), r.bytes(r.from(0, 14))
	switch n := r.from(0, 99); {
	case n < 12:
		p.same("Begin", p.s.Begin(), p.k.begin())
	case n < 50:
		p.same("Write", p.s.Write(x.block, x.off, x.b), p.k.write(x.block, x.off, x.b))
	case n < 52: // often more than the log has room for
		for _, block := range usable(g) {
			b := r.bytes(256)
			p.same("Write", p.s.Write(block, 0, b), p.k.write(block, 0, b))
		}
	case n < 72:
		p.read(x)
	case n < 84:
		p.same("Commit", p.s.Commit(), p.k.commit())
	case n < 86:
		p.same("Abort", p.s.Abort(), p.k.abort())
	case n < 90:
		p.same("Checkpoint", p.s.Checkpoint(), p.k.checkpoint())
	case n < 91:
		want(p.t, "Crash", p.d.Crash(picks...), p.k.d.Crash(picks...))
	case n < 95:
		many := r.from(0, 14)
		want(p.t, "Arm", p.d.Arm(many, picks...), p.k.d.Arm(many, picks...))
	case n < 98:
		want(p.t, "Restart", p.d.Restart(), p.k.d.Restart())
	default:
		p.open(g)
	}
}

// P10.1 to P10.5: long runs of all calls, on a disk whose power goes and comes back, some of them where numbers come to their end.
func TestAgainstBook(t *testing.T) {
	seen := map[answer]int{}
	for seed := range 90 {
		r := dice(1000 + seed)
		g := api.Geometry{Log: r.from(8, 10), Dir: r.from(1, 2), Extents: r.from(1, 3)}
		_, _, end := areas(g)
		g.Blocks = end + r.from(0, 2)
		d := formatted(t, g)
		first := api.Super{Epoch: 3, G: g, Head: int64(r.from(0, 200))}
		switch seed % 3 {
		case 1:
			first.Head = most - int64(r.from(0, 400))
		case 2:
			first.Epoch = most - int64(r.from(0, 12))
		}
		want(t, "noting a super", note(t, d, first), api.OK)
		p := &pair{t: t, d: d, k: &book{t: t, d: d.Clone()}, seen: seen}
		p.open(g)
		for range 500 {
			p.step(&r, g)
			p.holds()
		}
	}
	for _, a := range []answer{
		{"Open", api.OK}, {"Open", api.ErrPower}, {"Open", api.ErrFull}, {"Format", api.OK},
		{"Begin", api.OK}, {"Begin", api.ErrBusy}, {"Begin", api.ErrPower}, {"Abort", api.OK}, {"Abort", api.ErrTxn}, {"Abort", api.ErrPower},
		{"Read", api.OK}, {"Read", api.ErrArg}, {"Read", api.ErrPower}, {"Write", api.OK}, {"Write", api.ErrArg}, {"Write", api.ErrTxn}, {"Write", api.ErrPower},
		{"Commit", api.OK}, {"Commit", api.ErrTxn}, {"Commit", api.ErrLog}, {"Commit", api.ErrFull}, {"Commit", api.ErrPower},
		{"Checkpoint", api.OK}, {"Checkpoint", api.ErrBusy}, {"Checkpoint", api.ErrFull}, {"Checkpoint", api.ErrPower},
	} {
		if seen[a] == 0 {
			t.Errorf("no %s answered %d: the runs do not look at what they are to look at", a.call, int(a.e))
		}
	}
}
