package record_test

import (
	"bytes"
	"math"
	"slices"
	"testing"

	"attic/api"
	"attic/record"
)

// dice is a row of numbers that is the same in each run.
type dice uint64

func (d *dice) next() uint64 {
	*d += 0x9e3779b97f4a7c15
	z := uint64(*d)
	z = (z ^ z>>30) * 0xbf58476d1ce4e5b9
	z = (z ^ z>>27) * 0x94d049bb133111eb
	return z ^ z>>31
}

func (d *dice) from(low, high int) int { return low + int(d.next()%uint64(high-low+1)) }

func (d *dice) bytes(n int) []byte {
	b := make([]byte, n)
	for i := range b {
		b[i] = byte(d.next())
	}
	return b
}

func patch(block, off int, data ...byte) api.Record {
	return api.Record{Kind: api.RcPatch, Block: block, Off: off, Data: data}
}

func commit(many int) api.Record { return api.Record{Kind: api.RcCommit, Many: many} }

// row is n bytes that are not 0.
func row(n int) []byte { return bytes.Repeat([]byte{0xa5}, n) }

// manys are how many patches a commit may have.
var manys = []int{0, 1, 2, 255, 256, 1<<16 - 1, 1 << 16}

// several are records that may be, no two of them the same: at all edges, and by chance.
func several() []api.Record {
	var out []api.Record
	for _, block := range []int{0, 1, 255, 256, 300, 2046, 2047} {
		for _, n := range []int{1, 2, 3, 43, 44} {
			for _, off := range []int{0, 1, 128, 256 - n - 1, 256 - n} {
				out = append(out, patch(block, off, row(n)...))
			}
			out = append(out, patch(block, 7, make([]byte, n)...))
		}
	}
	for _, many := range manys {
		out = append(out, commit(many))
	}
	d := dice(61)
	for range 200 {
		n := d.from(1, 44)
		out = append(out, patch(d.from(0, 2047), d.from(0, 256-n), d.bytes(n)...))
	}
	for range 50 {
		out = append(out, commit(d.from(300, 65000)))
	}
	return unlike(out)
}

// unlike is l without those that were there already, held against each other by their fields written out.
func unlike(l []api.Record) []api.Record {
	type fields struct {
		kind, block, off, many int
		data                   string
	}
	seen := map[fields]int{}
	var out []api.Record
	for _, r := range l {
		f := fields{r.Kind, r.Block, r.Off, r.Many, string(r.Data)}
		if seen[f]++; seen[f] == 1 {
			out = append(out, r)
		}
	}
	return out
}

// wrong are records that may not be: each has one thing that is wrong, and some have more of them.
func wrong() []api.Record {
	out := []api.Record{{}, {Kind: 3}, {Data: []byte{1}}, {Many: 1}, {Kind: -1, Block: -1, Off: -1, Many: -1}}
	ends := []int{math.MinInt, math.MinInt + 1, math.MinInt32, -1 << 8, math.MaxInt32, 1<<32 - 1, 1 << 32, math.MaxInt - 1, math.MaxInt}
	for _, v := range append([]int{-2, -1, 0, 3, 4, 255, 256, 257, 258, 1<<16 + 1, 1<<32 + 1, 1<<32 + 2}, ends...) {
		out = append(out, api.Record{Kind: v, Block: 1, Off: 2, Data: []byte{3}}, api.Record{Kind: v, Many: 4}, api.Record{Kind: v})
	}
	for _, v := range append([]int{-2048, -2, -1, 2048, 2049, 1<<32 + 1}, ends...) {
		out = append(out, patch(v, 0, 1), patch(v, 255, 1), patch(v, 212, row(44)...))
	}
	for _, v := range append([]int{-256, -255, -44, -2, -1, 256, 257, 300, 1<<32 + 1}, ends...) {
		out = append(out, patch(5, v, 1), patch(5, v, row(2)...), patch(5, v, row(44)...))
	}
	for n := 2; n <= 44; n++ {
		out = append(out, patch(5, 256-n+1, row(n)...), patch(5, 255, row(n)...))
	}
	for _, n := range []int{0, 45, 46, 64, 255, 256, 257, 258, 300, 1<<16 + 1, 1 << 20} {
		out = append(out, patch(0, 0, row(n)...), patch(2047, 0, make([]byte, n)...), patch(5, 255, row(n)...))
	}
	for _, v := range append([]int{-2, -1, 1, 2, 1 << 16, 1<<16 + 1}, ends...) {
		r := patch(5, 6, 7)
		r.Many = v
		out = append(out, r)
	}
	for _, v := range append([]int{-2, -1, 1<<16 + 1, 1<<16 + 2, 1 << 17, 1<<32 + 1}, ends...) {
		out = append(out, commit(v))
	}
	for _, v := range append([]int{-1, 1, 2, 255, 256, 2047, 2048}, ends...) {
		out = append(out,
			api.Record{Kind: api.RcCommit, Block: v}, api.Record{Kind: api.RcCommit, Block: v, Many: 2},
			api.Record{Kind: api.RcCommit, Off: v}, api.Record{Kind: api.RcCommit, Off: v, Many: 2})
	}
	for _, n := range []int{1, 44, 45, 256, 300} {
		out = append(out, api.Record{Kind: api.RcCommit, Data: make([]byte, n)}, api.Record{Kind: api.RcCommit, Data: row(n), Many: 2})
	}
	return out
}

// brief is a record for a message: of long Data only how long it is.
func brief(r api.Record) []any {
	return []any{"kind", r.Kind, "block", r.Block, "off", r.Off, "many", r.Many, "bytes", len(r.Data), r.Data[:min(len(r.Data), 4)]}
}

// equal holds records against each other without the package's own Same.
func equal(a, b api.Record) bool {
	return a.Kind == b.Kind && a.Block == b.Block && a.Off == b.Off && a.Many == b.Many && string(a.Data) == string(b.Data)
}

func isZero(r api.Record) bool { return r.Data == nil && equal(r, api.Record{}) }

func TestNumbers(t *testing.T) {
	if api.ErrRecord != 60 || api.ErrStale != 61 || api.ErrArg != 1 || api.OK != 0 {
		t.Error("the errors' numbers")
	}
	if api.RcPatch != 1 || api.RcCommit != 2 || api.RecordBytes != 64 || api.MaxPatch != 44 || api.MaxMany != 1<<16 || api.MaxBlocks != 2048 || int64(api.MaxLsn) != 1<<61 {
		t.Error("the kinds and the limits")
	}
}

// P6.1: Check.
func TestCheck(t *testing.T) {
	for _, r := range several() {
		if e := record.Check(r); e != api.OK {
			t.Errorf("Check of %v: error %d", brief(r), int(e))
		}
	}
	for _, r := range wrong() {
		if e := record.Check(r); e != api.ErrRecord {
			t.Errorf("Check of %v: error %d", brief(r), int(e))
		}
	}
}

// P6.1: Check at the edges that the document names, one field at a time.
func TestCheckEdges(t *testing.T) {
	data := []byte{9}
	for i, c := range []struct {
		r    api.Record
		want api.Errno
	}{
		{api.Record{Kind: 0, Data: data}, api.ErrRecord},
		{api.Record{Kind: 1, Data: data}, api.OK},
		{api.Record{Kind: 2, Data: data}, api.ErrRecord},
		{api.Record{Kind: 3, Data: data}, api.ErrRecord},
		{api.Record{Kind: 0}, api.ErrRecord},
		{api.Record{Kind: 1}, api.ErrRecord},
		{api.Record{Kind: 2}, api.OK},
		{api.Record{Kind: 3}, api.ErrRecord},
		{patch(-1, 0, 9), api.ErrRecord},
		{patch(0, 0, 9), api.OK},
		{patch(2047, 0, 9), api.OK},
		{patch(2048, 0, 9), api.ErrRecord},
		{patch(0, 0), api.ErrRecord},
		{api.Record{Kind: 1, Data: []byte{}}, api.ErrRecord},
		{patch(0, 0, row(1)...), api.OK},
		{patch(0, 0, row(44)...), api.OK},
		{patch(0, 0, row(45)...), api.ErrRecord},
		{patch(0, -1, 9), api.ErrRecord},
		{patch(0, 0, 9), api.OK},
		{patch(0, 255, 9), api.OK},
		{patch(0, 256, 9), api.ErrRecord},
		{patch(0, 212, row(44)...), api.OK},
		{patch(0, 213, row(44)...), api.ErrRecord},
		{patch(0, 256), api.ErrRecord},
		{api.Record{Kind: 1, Data: data, Many: -1}, api.ErrRecord},
		{api.Record{Kind: 1, Data: data, Many: 1}, api.ErrRecord},
		{commit(-1), api.ErrRecord},
		{commit(0), api.OK},
		{commit(1 << 16), api.OK},
		{commit(1<<16 + 1), api.ErrRecord},
		{api.Record{Kind: 2, Data: []byte{}}, api.OK},
		{api.Record{Kind: 2, Data: []byte{0}}, api.ErrRecord},
		{api.Record{Kind: 2, Block: 1}, api.ErrRecord},
		{api.Record{Kind: 2, Block: -1}, api.ErrRecord},
		{api.Record{Kind: 2, Off: 1}, api.ErrRecord},
		{api.Record{Kind: 2, Off: -1}, api.ErrRecord},
	} {
		if e := record.Check(c.r); e != c.want {
			t.Errorf("%d: Check of %v: error %d, not %d", i, brief(c.r), int(e), int(c.want))
		}
	}
}

// P6.1: a patch of each length at each place of the block, and beyond it.
func TestCheckEnds(t *testing.T) {
	for n := range 47 {
		for off := -50; off < 310; off++ {
			want := api.ErrRecord
			if n >= 1 && n <= 44 && off >= 0 && off+n <= 256 {
				want = api.OK
			}
			if e := record.Check(patch(1, off, row(n)...)); e != want {
				t.Errorf("Check of %d bytes at %d: error %d, not %d", n, off, int(e), int(want))
			}
		}
	}
}

// P6.1: Same of all pairs.
func TestSamePairs(t *testing.T) {
	l := unlike(append(several()[:200], wrong()...))
	for i, a := range l {
		for j, b := range l {
			if got := record.Same(a, b); got != (i == j) {
				t.Fatalf("Same of %v and %v: %v", brief(a), brief(b), got)
			}
		}
	}
}

// P6.1: Same hangs on each field alone, whether the record may be or not.
func TestSameFields(t *testing.T) {
	for _, r := range []api.Record{{}, patch(3, 4, 5, 6, 7), commit(8), {Kind: 9, Block: 10, Off: 11, Data: []byte{12}, Many: 13}, {Kind: math.MinInt, Block: math.MaxInt, Off: math.MinInt, Data: row(300), Many: math.MaxInt}} {
		same := r
		same.Data = slices.Concat(r.Data, []byte{200, 201})[:len(r.Data)] // with room behind it
		if !record.Same(r, same) || !record.Same(same, r) || !record.Same(r, r) {
			t.Errorf("Same of %v and itself", brief(r))
		}
		for i, f := range []func(x *api.Record){
			func(x *api.Record) { x.Kind++ },
			func(x *api.Record) { x.Block-- },
			func(x *api.Record) { x.Off++ },
			func(x *api.Record) { x.Many-- },
			func(x *api.Record) { x.Data = append(x.Data, 0) },
		} {
			other := record.Clone(r)
			f(&other)
			if record.Same(r, other) || record.Same(other, r) {
				t.Errorf("%d: Same of %v and %v", i, brief(r), brief(other))
			}
		}
		for i := range r.Data {
			other := api.Record{Kind: r.Kind, Block: r.Block, Off: r.Off, Many: r.Many, Data: bytes.Clone(r.Data)}
			other.Data[i] ^= 128
			if record.Same(r, other) {
				t.Errorf("Same with the byte %d changed", i)
			}
			other.Data = other.Data[:i]
			if record.Same(r, other) || record.Same(other, r) {
				t.Errorf("Same with a beginning of %d bytes", i)
			}
		}
	}
}

// R4: no Data and nil are the same.
func TestNoneIsNil(t *testing.T) {
	none, null := api.Record{Kind: api.RcCommit, Data: []byte{}, Many: 2}, commit(2)
	if !record.Same(none, null) || !record.Same(null, none) {
		t.Error("Same")
	}
	if record.Check(none) != api.OK || record.Check(null) != api.OK {
		t.Error("Check of a commit")
	}
	if record.Check(api.Record{Kind: api.RcPatch}) != api.ErrRecord || record.Check(api.Record{Kind: api.RcPatch, Data: []byte{}}) != api.ErrRecord {
		t.Error("Check of a patch")
	}
	if !equal(record.Clone(none), none) || !equal(record.Clone(null), null) {
		t.Error("Clone")
	}
	if !bytes.Equal(bytesOf(t, 5, none), bytesOf(t, 5, null)) {
		t.Error("Bytes")
	}
}

// P6.1, R3: Clone's Data is its own, of records that may not be, too.
func TestClone(t *testing.T) {
	for _, r := range append(several(), wrong()...) {
		room := slices.Concat(r.Data, []byte{200, 201, 202})
		was := bytes.Clone(room)
		r.Data = room[:len(r.Data)]
		c := record.Clone(r)
		if !equal(c, r) {
			t.Fatalf("Clone of %v: %v", brief(r), brief(c))
		}
		second := record.Clone(r)
		for i := range c.Data {
			c.Data[i] ^= 255
		}
		c.Data = append(c.Data, 1, 2, 3, 4)
		if !bytes.Equal(room, was) || !equal(second, r) {
			t.Fatalf("Clone of %v goes with what it was made of", brief(r))
		}
		clear(room)
		if !bytes.Equal(second.Data, was[:len(second.Data)]) {
			t.Fatalf("Clone of %v goes with what it was made of", brief(r))
		}
	}
}

// R3: Check and Same leave Data as it is, and the room behind it.
func TestAskedIsLeft(t *testing.T) {
	for n := range 50 {
		room := append(row(n), 200, 201, 202)
		was := bytes.Clone(room)
		r := patch(1, 2, room[:n]...)
		record.Check(r)
		record.Same(r, r)
		record.Same(r, patch(1, 2, 3))
		if !bytes.Equal(room, was) {
			t.Errorf("%d bytes of Data: written to", n)
		}
	}
}

// THE BOUND: Data that is far too long is refused at once, and held against another, and cloned, in one go.
func TestLongData(t *testing.T) {
	a, b := patch(0, 0, make([]byte, 1<<24)...), patch(0, 0, make([]byte, 1<<24)...)
	if record.Check(a) != api.ErrRecord || !record.Same(a, b) || !equal(record.Clone(a), b) {
		t.Error("long Data")
	}
	b.Data[1<<24-1] = 1
	if record.Same(a, b) {
		t.Error("Same of long Data whose last byte is another one")
	}
}
