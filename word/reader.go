package word

import "attic/api"

// Reader is bytes that are read.
type Reader struct{ held }

// held is what a reader has. Its zero value is that of a reader that no call made.
type held struct {
	left []byte
	err  api.Errno
	made bool
}

func (h *held) skip(n int) { h.left = h.left[n:] }

func (h *held) fail(e api.Errno) { h.err = e }

// Read is a reader.
func Read(b []byte) *Reader {
	return &Reader{held{left: own(b), made: true}}
}

// Num takes a number.
func (r *Reader) Num(n int) uint64 {
	if !r.reads() {
		return 0
	}
	if !isWidth(n) {
		r.fail(api.ErrArg)
		return 0
	}
	v, ok := Get(r.left, 0, n)
	if !ok {
		r.fail(api.ErrShort)
		return 0
	}
	r.skip(n)
	return v
}

// Bytes takes bytes.
func (r *Reader) Bytes(n int) []byte {
	if !r.reads() {
		return nil
	}
	if n < 0 {
		r.fail(api.ErrArg)
		return nil
	}
	if n > len(r.left) {
		r.fail(api.ErrShort)
		return nil
	}
	b := own(r.left[:n])
	r.skip(n)
	return b
}

// Uvar takes a number.
func (r *Reader) Uvar() uint64 {
	if !r.reads() {
		return 0
	}
	v, n, e := TakeUvar(r.left)
	if e != api.OK {
		r.fail(e)
		return 0
	}
	r.skip(n)
	return v
}

// Rest is how many bytes are left.
func (r *Reader) Rest() int {
	if !r.isMade() {
		return 0
	}
	return len(r.left)
}

// Err is the first error.
func (r *Reader) Err() api.Errno {
	if !r.isMade() {
		return api.ErrMade
	}
	return r.err
}

// End tells whether all was right, and all was read.
func (r *Reader) End() api.Errno {
	if e := r.Err(); e != api.OK {
		return e
	}
	if r.Rest() > 0 {
		return api.ErrMore
	}
	return api.OK
}

// isMade asks for nil here, not in held: a promoted method of a nil reader would panic.
func (r *Reader) isMade() bool { return r != nil && r.made }

func (r *Reader) reads() bool { return r.Err() == api.OK }
