package word_test

import (
	"bytes"
	"math"
	"slices"
	"testing"

	"attic/api"
	"attic/word"
)

// stands tells whether a reader has so many bytes left, that error, and the End that follows.
func stands(t *testing.T, r *word.Reader, rest int, e api.Errno) {
	t.Helper()
	end := e
	if e == api.OK && rest > 0 {
		end = api.ErrMore
	}
	if r.Rest() != rest || r.Err() != e || r.End() != end {
		t.Errorf("Rest, Err, End: %d, %d, %d, not %d, %d, %d", r.Rest(), int(r.Err()), int(r.End()), rest, int(e), int(end))
	}
}

func wantNum(t *testing.T, got, want uint64) {
	t.Helper()
	if got != want {
		t.Errorf("a number: %d, not %d", got, want)
	}
}

func wantBytes(t *testing.T, got []byte, want string) {
	t.Helper()
	if string(got) != want {
		t.Errorf("bytes: %q, not %q", got, want)
	}
}

// P1.4: one behind the other.
func TestReader(t *testing.T) {
	r := word.Read([]byte("\x2c\x01\xac\x02hello\x01\x02\x03\x04\x05\x06\x07\x08\x00!"))
	stands(t, r, 19, api.OK)
	wantNum(t, r.Num(2), 300)
	stands(t, r, 17, api.OK)
	wantNum(t, r.Uvar(), 300)
	stands(t, r, 15, api.OK)
	wantBytes(t, r.Bytes(5), "hello")
	stands(t, r, 10, api.OK)
	wantBytes(t, r.Bytes(0), "")
	stands(t, r, 10, api.OK)
	wantNum(t, r.Num(8), 0x0807060504030201)
	stands(t, r, 2, api.OK)
	wantNum(t, r.Uvar(), 0)
	stands(t, r, 1, api.OK)
	wantNum(t, r.Num(1), '!')
	stands(t, r, 0, api.OK)
	wantBytes(t, r.Bytes(0), "")
	stands(t, r, 0, api.OK)
}

func TestReaderWidths(t *testing.T) {
	b := []byte{1, 2, 3, 4, 5, 6, 7, 8, 9}
	for n := 1; n <= 8; n++ {
		r := word.Read(b)
		wantNum(t, r.Num(n), lowest(n, 0x0807060504030201))
		stands(t, r, 9-n, api.OK)
	}
}

func TestReaderOfNothing(t *testing.T) {
	for _, b := range [][]byte{nil, {}} {
		stands(t, word.Read(b), 0, api.OK)
		r := word.Read(b)
		wantBytes(t, r.Bytes(0), "")
		stands(t, r, 0, api.OK)
		wantBytes(t, r.Bytes(1), "")
		stands(t, r, 0, api.ErrShort)
		r = word.Read(b)
		wantNum(t, r.Num(1), 0)
		stands(t, r, 0, api.ErrShort)
		r = word.Read(b)
		wantNum(t, r.Uvar(), 0)
		stands(t, r, 0, api.ErrShort)
	}
}

// wrongs are calls that a reader of wrongBytes refuses, each with its error.
var wrongBytes = []byte{128, 0, 3, 4}

type wrong struct {
	name string
	call func(t *testing.T, r *word.Reader)
	e    api.Errno
}

func wrongs() []wrong {
	num := func(n int) func(*testing.T, *word.Reader) {
		return func(t *testing.T, r *word.Reader) { t.Helper(); wantNum(t, r.Num(n), 0) }
	}
	list := func(n int) func(*testing.T, *word.Reader) {
		return func(t *testing.T, r *word.Reader) {
			t.Helper()
			if got := r.Bytes(n); got != nil {
				t.Errorf("Bytes(%d): %v, not nothing", n, got)
			}
		}
	}
	out := []wrong{
		{"Num 5", num(5), api.ErrShort},
		{"Num 8", num(8), api.ErrShort},
		{"Bytes -1", list(-1), api.ErrArg},
		{"Bytes MinInt", list(math.MinInt), api.ErrArg},
		{"Bytes 5", list(5), api.ErrShort},
		{"Bytes MaxInt", list(math.MaxInt), api.ErrShort},
		{"Uvar", func(t *testing.T, r *word.Reader) { t.Helper(); wantNum(t, r.Uvar(), 0) }, api.ErrUvar},
	}
	for _, n := range wrongWidths { // of which some are above what is left: ErrArg comes first
		out = append(out, wrong{"Num of a wrong width", num(n), api.ErrArg})
	}
	return out
}

// P1.4: an error is the reader's; nothing is taken with it, and nothing behind it.
func TestReaderErrors(t *testing.T) {
	for _, w := range wrongs() {
		t.Run(w.name, func(t *testing.T) {
			r := word.Read(wrongBytes)
			w.call(t, r)
			stands(t, r, 4, w.e)
			for _, later := range wrongs() {
				later.call(t, r)
				stands(t, r, 4, w.e)
			}
			wantNum(t, r.Num(1), 0)
			wantBytes(t, r.Bytes(0), "")
			wantBytes(t, r.Bytes(1), "")
			wantBytes(t, r.Bytes(4), "")
			stands(t, r, 4, w.e)
		})
	}
}

// A number that stands there is not taken either, behind an error.
func TestReaderStopsAtItsError(t *testing.T) {
	r := word.Read([]byte{9, 5, 6, 7})
	wantNum(t, r.Uvar(), 9)
	wantNum(t, r.Num(0), 0)
	stands(t, r, 3, api.ErrArg)
	wantNum(t, r.Uvar(), 0)
	wantNum(t, r.Num(3), 0)
	wantNum(t, r.Num(4), 0)
	wantBytes(t, r.Bytes(3), "")
	stands(t, r, 3, api.ErrArg)
}

func TestReaderUvarErrors(t *testing.T) {
	ten := bytes.Repeat([]byte{128}, 9)
	for _, c := range []struct {
		b []byte
		e api.Errno
	}{
		{[]byte{128}, api.ErrShort},
		{ten, api.ErrShort},
		{[]byte{129, 0}, api.ErrUvar},
		{slices.Concat(ten, []byte{2}), api.ErrUvar},
		{slices.Concat(ten, []byte{0}), api.ErrUvar},
		{slices.Concat(ten, []byte{129, 1}), api.ErrUvar},
	} {
		r := word.Read(slices.Concat([]byte{3}, c.b))
		wantNum(t, r.Uvar(), 3)
		wantNum(t, r.Uvar(), 0)
		stands(t, r, len(c.b), c.e)
	}
	r := word.Read(slices.Concat(ten, []byte{1, 5}))
	wantNum(t, r.Uvar(), 1<<63)
	wantNum(t, r.Uvar(), 5)
	stands(t, r, 0, api.OK)
}

// A refused End is no error of the reader: it goes on.
func TestReaderGoesOnBehindEnd(t *testing.T) {
	r := word.Read([]byte{1, 2})
	for rest := 2; rest > 0; rest-- {
		stands(t, r, rest, api.OK)
		wantNum(t, r.Num(1), uint64(3-rest))
	}
	stands(t, r, 0, api.OK)
}

// P1.5, by a reader.
func TestReaderThereAndBack(t *testing.T) {
	d := dice(10)
	for range 300 {
		v, w, b, n := d.number(), d.number(), d.bytes(int(d.next()%40)), 1+int(d.next()%8)
		r := word.Read(slices.Concat(word.Uvar(v), word.Num(n, w), b, word.Uvar(w)))
		wantNum(t, r.Uvar(), v)
		wantNum(t, r.Num(n), lowest(n, w))
		wantBytes(t, r.Bytes(len(b)), string(b))
		wantNum(t, r.Uvar(), w)
		stands(t, r, 0, api.OK)
	}
}

// P1.4, R5: a reader that no call made.
func TestReaderNotMade(t *testing.T) {
	none, zero := (*word.Reader)(nil), &word.Reader{}
	for _, r := range []*word.Reader{none, zero, new(word.Reader)} {
		for range 2 { // what was called ahead changes nothing
			stands(t, r, 0, api.ErrMade)
			for _, w := range wrongs() {
				w.call(t, r)
				stands(t, r, 0, api.ErrMade)
			}
			wantNum(t, r.Num(1), 0)
			if r.Bytes(0) != nil || r.Bytes(1) != nil {
				t.Error("bytes of a reader that no call made")
			}
			stands(t, r, 0, api.ErrMade)
		}
	}
	if made := word.Read(nil); made == nil || made.Err() != api.OK {
		t.Error("a reader of no bytes is made all the same")
	}
}

// R3: a reader has bytes of its own.
func TestReaderKeepsItsOwn(t *testing.T) {
	b := []byte{1, 2, 3, 4, 5, 6}
	r, s := word.Read(b), word.Read(b)
	for i := range b {
		b[i] = 99
	}
	wantNum(t, r.Num(1), 1)
	got := r.Bytes(2)
	wantBytes(t, got, "\x02\x03")
	got[0], got[1] = 77, 77
	_ = append(got, 66, 66, 66)
	wantNum(t, r.Uvar(), 4)
	wantBytes(t, r.Bytes(2), "\x05\x06")
	stands(t, r, 0, api.OK)
	if !bytes.Equal(b, []byte{99, 99, 99, 99, 99, 99}) {
		t.Errorf("what was handed in goes with a reader's answer: %v", b)
	}
	wantBytes(t, s.Bytes(6), "\x01\x02\x03\x04\x05\x06")
}

// R3: what one has answered is not the next one's.
func TestReaderAnswersApart(t *testing.T) {
	r := word.Read([]byte("abcd"))
	one, two := r.Bytes(2), r.Bytes(2)
	one = append(one, 'x', 'y')
	two[0] = 'z'
	wantBytes(t, one, "abxy")
	wantBytes(t, two, "zd")
}

// THE BOUND: a call takes no longer because much is left, and none makes room for what isn't there.
func TestReaderLong(t *testing.T) {
	const many = 1 << 20
	b := bytes.Repeat([]byte{7}, 3*many)
	r := word.Read(b)
	for range many {
		if r.Num(1) != 7 || r.Uvar() != 7 || len(r.Bytes(1)) != 1 {
			t.Fatal("a byte of a long row is not 7")
		}
	}
	stands(t, r, 0, api.OK)
	wantBytes(t, r.Bytes(math.MaxInt), "")
	stands(t, r, 0, api.ErrShort)
}
