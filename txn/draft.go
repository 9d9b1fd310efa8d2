package txn

import "attic/api"

// A draft is the bytes of a block that a transaction has written, and which
// ones they are: the others are the disk's till it ends.
type draft struct {
	bytes [api.BlockBytes]byte
	wrote [api.BlockBytes]bool
}

// write puts bytes that lie within the block there.
func (w *draft) write(off int, b []byte) {
	copy(w.bytes[off:], b)
	for i := range b {
		w.wrote[off+i] = true
	}
}

// lay puts what was written into a page.
func (w *draft) lay(page []byte) {
	for i, is := range w.wrote {
		if is {
			page[i] = w.bytes[i]
		}
	}
}
