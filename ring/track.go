package ring

import (
	"iter"

	"attic/api"
	"attic/disk"
	"attic/record"
)

// track is the blocks in which a ring goes round, with their disk within it.
// The ring has it as a field with a name: else the disk's methods would be
// the ring's callers', too.
type track struct {
	*disk.Disk
	base, blocks int
}

// load is the records from a number on, as long as there is one, and at most a lap of them.
func (t track) load(head int64) ([]api.Record, api.Errno) {
	var l []api.Record
	for first, many := range runs(head, lap(t.blocks)) {
		b, e := t.Read(t.block(first))
		if e != api.OK {
			return nil, e
		}
		for n := first; n < first+int64(many); n++ {
			x, e := record.Take(sector(b, n), n)
			if e != api.OK {
				return l, api.OK
			}
			l = append(l, x)
		}
	}
	return l, api.OK
}

// lay writes records that may be into the sectors from a number on.
func (t track) lay(tail int64, l ...api.Record) api.Errno {
	for first, many := range runs(tail, len(l)) {
		// Read anew, even if it was written just now: it may have come round to where it began.
		b, e := t.Read(t.block(first))
		if e != api.OK {
			return e
		}
		for n := first; n < first+int64(many); n++ {
			s, _ := record.Bytes(n, l[n-tail])
			copy(sector(b, n), s)
		}
		if e := t.Write(t.block(first), b); e != api.OK {
			return e
		}
	}
	return api.OK
}

// block is where the record of a number stands. (A lap is whole blocks, so
// that its sector there is the number modulo a block's sectors.)
func (t track) block(n int64) int {
	return t.base + int(n/api.Sectors%int64(t.blocks))
}

func sector(block []byte, n int64) []byte {
	return block[n%api.Sectors*api.SectorBytes:][:api.SectorBytes]
}

// runs cuts so many numbers into those that stand in one block, one behind
// the other: it tells the first one, and how many they are.
func runs(from int64, many int) iter.Seq2[int64, int] {
	return func(yield func(int64, int) bool) {
		for done := 0; done < many; {
			first := from + int64(done)
			n := min(many-done, api.Sectors-int(first%api.Sectors))
			if !yield(first, n) {
				return
			}
			done += n
		}
	}
}
