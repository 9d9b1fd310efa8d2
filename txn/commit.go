package txn

import (
	"attic/api"
	"attic/disk"
	"attic/replay"
	"attic/super"
)

// commit puts the open transaction into the log, and then its blocks home.
func (s *Store) commit() api.Errno {
	patches, e := s.patches()
	if e != api.OK || len(patches) == 0 {
		return e
	}
	if len(patches) >= api.Sectors*s.super.G.Log {
		return api.ErrLog
	}
	if len(patches)+1 > s.within.Room() {
		if e := s.checkpoint(); e != api.OK {
			return e
		}
	}
	if e := s.log(patches); e != api.OK {
		return e
	}
	return s.home(patches)
}

// patches are those by which the open transaction changes what the disk reads.
func (s *Store) patches() ([]api.Record, api.Errno) {
	var all []api.Record
	for block := range s.Changed() {
		old, e := s.within.Read(block)
		if e != api.OK {
			return nil, e
		}
		now, e := s.page(block)
		if e != api.OK {
			return nil, e
		}
		cut, e := replay.Cut(block, old, now)
		if e != api.OK {
			return nil, e
		}
		all = append(all, cut...)
	}
	return all, api.OK
}

// log puts patches for which there is room into the log, as ones that count.
func (s *Store) log(patches []api.Record) api.Errno {
	commit := api.Record{Kind: api.RcCommit, Many: len(patches)}
	switch e := s.within.Append(append(patches, commit)...); e {
	case api.OK:
		return s.within.Sync()
	case api.ErrLong: // its numbers have come to their end
		return api.ErrFull
	default:
		return e
	}
}

// home writes the patches' blocks to where they stand.
func (s *Store) home(patches []api.Record) api.Errno {
	for block := range replay.Blocks(patches...) {
		page, e := s.page(block)
		if e != api.OK {
			return e
		}
		if e := s.within.Write(block, 0, page); e != api.OK {
			return e
		}
		// Cleaned one by one: there may be more of them than buffers.
		if e := s.within.Clean(); e != api.OK {
			return e
		}
	}
	return api.OK
}

// checkpoint lets the log's records go, once all that they changed is on the disk.
func (s *Store) checkpoint() api.Errno {
	if s.held() == 0 {
		return api.OK
	}
	if e := s.disk.Flush(); e != api.OK {
		return e
	}
	next, e := super.Next(s.super, s.within.Tail())
	if e != api.OK {
		return api.ErrFull
	}
	if e := note(s.disk, next); e != api.OK {
		return e
	}
	s.super = next
	return s.within.Trim(next.Head)
}

// note lets a super that may be count on a disk.
func note(d *disk.Disk, s api.Super) api.Errno {
	b, e := super.Bytes(s)
	if e != api.OK {
		return e
	}
	if e := d.Write(super.Slot(s), b); e != api.OK {
		return e
	}
	return d.Flush()
}
