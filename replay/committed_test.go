package replay_test

import (
	"slices"
	"testing"

	"attic/api"
	"attic/replay"
)

// whole tells whether a list is nothing but commits that count, each behind its patches. It is asked from the end on.
func whole(l []api.Record) bool {
	for len(l) > 0 {
		last := l[len(l)-1]
		ahead := len(l) - 1 - last.Many
		if last.Kind != 2 || !mayBe(last) || ahead < 0 {
			return false
		}
		for _, r := range l[ahead : len(l)-1] {
			if r.Kind != 1 || !mayBe(r) {
				return false
			}
		}
		l = l[:ahead]
	}
	return true
}

// committed is the document's rule put another way: what counts is the longest beginning that is whole.
func committed(l []api.Record) ([]api.Record, int) {
	n := len(l)
	for !whole(l[:n]) {
		n--
	}
	var patches []api.Record
	for _, r := range l[:n] {
		if r.Kind == 1 {
			patches = append(patches, r)
		}
	}
	return patches, n
}

// counts holds Committed against the patches and the number that are to be.
func counts(t *testing.T, l, patches []api.Record, many int) {
	t.Helper()
	got, n := replay.Committed(l...)
	if n != many {
		t.Fatalf("Committed of %v: %d records, not %d", briefly(l), n, many)
	}
	wantList(t, "Committed", got, patches)
}

// P8.1: at the edges that the document names.
func TestCommittedEdges(t *testing.T) {
	a, b, c := patch(1, 0, 1), patch(2047, 255, 2), patch(0, 212, row(44, 3)...)
	none := commit(0)
	for _, x := range []struct {
		l    []api.Record
		want []api.Record
		n    int
	}{
		{nil, nil, 0},
		{[]api.Record{a}, nil, 0},
		{[]api.Record{a, b, c}, nil, 0},
		{[]api.Record{none}, nil, 1},
		{[]api.Record{none, none, none}, nil, 3},
		{[]api.Record{none, a, commit(1)}, []api.Record{a}, 3},
		{[]api.Record{a, commit(1), none}, []api.Record{a}, 3},
		{[]api.Record{a, commit(1), none, b, commit(1)}, []api.Record{a, b}, 5},
		{[]api.Record{a, none}, nil, 0},
		{[]api.Record{a, none, commit(1)}, nil, 0},
		{[]api.Record{commit(1)}, nil, 0},
		{[]api.Record{commit(1), a, commit(1)}, nil, 0},
		{[]api.Record{a, b, commit(1)}, nil, 0},
		{[]api.Record{a, b, commit(2)}, []api.Record{a, b}, 3},
		{[]api.Record{a, b, commit(3)}, nil, 0},
		{[]api.Record{a, commit(1), b, c, commit(1)}, []api.Record{a}, 2},
		{[]api.Record{a, commit(1), b, c, commit(2)}, []api.Record{a, b, c}, 5},
		{[]api.Record{a, commit(1), b, c, commit(3)}, []api.Record{a}, 2},
		{[]api.Record{a, commit(1), commit(1)}, []api.Record{a}, 2},
		{[]api.Record{a, b, commit(1), commit(1)}, nil, 0},
		{[]api.Record{a, b, commit(1), commit(2)}, nil, 0},
		{[]api.Record{a, commit(2), b, commit(2)}, nil, 0},
		{[]api.Record{a, commit(2), b, commit(1)}, nil, 0},
		{[]api.Record{a, commit(1), b, commit(2), c, commit(1)}, []api.Record{a}, 2},
		{[]api.Record{a, a, commit(2), a, commit(1)}, []api.Record{a, a, a}, 5},
		{[]api.Record{c, b, a, commit(3)}, []api.Record{c, b, a}, 4},
		{[]api.Record{a, commit(1), b, c}, []api.Record{a}, 2},
	} {
		counts(t, x.l, x.want, x.n)
	}
}

// P8.1: each record that may not be, at each place of a list that counts but for it, and behind it.
func TestCommittedBads(t *testing.T) {
	a, b, c := patch(1, 0, 1), patch(2, 3, 4), patch(0, 5, 6)
	l := []api.Record{a, commit(1), b, c, commit(2)}
	for _, bad := range bads() {
		for at, x := range []struct {
			want []api.Record
			n    int
		}{{nil, 0}, {nil, 0}, {[]api.Record{a}, 2}, {[]api.Record{a}, 2}, {[]api.Record{a}, 2}, {[]api.Record{a, b, c}, 5}} {
			counts(t, slices.Insert(slices.Clone(l), at, bad), x.want, x.n)
			counts(t, append(slices.Clone(l[:at]), bad), x.want, x.n)
			if at < len(l) {
				counts(t, append(append(slices.Clone(l[:at]), bad), l[at+1:]...), x.want, x.n)
			}
		}
		// As if it were one of the patches that its commit tells, or that it does not tell.
		counts(t, []api.Record{a, bad, commit(2)}, nil, 0)
		counts(t, []api.Record{a, bad, commit(1)}, nil, 0)
		counts(t, []api.Record{bad, commit(0)}, nil, 0)
		counts(t, []api.Record{bad, commit(1)}, nil, 0)
		counts(t, []api.Record{bad}, nil, 0)
	}
}

// lists calls f with each list of at most so many of some records.
func lists(of []api.Record, most int, f func(l []api.Record)) {
	var more func(l []api.Record)
	more = func(l []api.Record) {
		f(l)
		if len(l) == most {
			return
		}
		for _, r := range of {
			more(append(slices.Clone(l), r))
		}
	}
	more(nil)
}

// P8.1: of each short list there is.
func TestCommittedAll(t *testing.T) {
	of := []api.Record{patch(1, 0, 1), patch(2, 3, 4), commit(0), commit(1), commit(2), commit(3), patch(1, 256, 1), commit(-1)}
	lists(of, 6, func(l []api.Record) {
		patches, n := committed(l)
		counts(t, l, patches, n)
	})
}

// sound is a list of commits that count, each behind as many patches as d says.
func (d *dice) sound(commits, most int) []api.Record {
	var l []api.Record
	for range commits {
		many := d.from(0, most)
		for range many {
			l = append(l, d.patch())
		}
		l = append(l, commit(many))
	}
	return l
}

// P8.1: of long lists, whole and with one record taken away, put in or made another one.
func TestCommittedLong(t *testing.T) {
	d := dice(81)
	wrong := bads()
	for range 300 {
		l := d.sound(d.from(1, 12), d.from(0, 9))
		patches, n := committed(l)
		if n != len(l) {
			t.Fatalf("a list of %d records is to count as far as %d", len(l), n)
		}
		counts(t, l, patches, n)
		at := d.from(0, len(l)-1)
		for _, other := range [][]api.Record{
			slices.Delete(slices.Clone(l), at, at+1),
			slices.Insert(slices.Clone(l), at, d.records(1)...),
			slices.Replace(slices.Clone(l), at, at+1, d.records(1)...),
			slices.Replace(slices.Clone(l), at, at+1, wrong[d.from(0, len(wrong)-1)]),
		} {
			patches, n := committed(other)
			counts(t, other, patches, n)
		}
	}
}

// P8.1: as many patches as a commit may have, and one more. THE BOUND: nothing is gone through again and again.
func TestCommittedMost(t *testing.T) {
	l := slices.Repeat([]api.Record{patch(1, 2, 3)}, 1<<16)
	counts(t, append(slices.Clone(l), commit(1<<16)), l, 1<<16+1)
	counts(t, append(slices.Clone(l), commit(1<<16-1)), nil, 0)
	counts(t, append(slices.Clone(l), patch(4, 5, 6), commit(1<<16)), nil, 0)
	counts(t, append(slices.Clone(l), patch(4, 5, 6), commit(1<<16+1)), nil, 0)

	twice := append(append(slices.Clone(l), commit(1<<16)), append(slices.Clone(l), commit(1<<16))...)
	counts(t, twice, append(slices.Clone(l), l...), 2<<16+2)
	counts(t, slices.Repeat([]api.Record{commit(0)}, 300000), nil, 300000)
	counts(t, slices.Repeat([]api.Record{patch(1, 2, 3), commit(1)}, 1<<17), slices.Repeat([]api.Record{patch(1, 2, 3)}, 1<<17), 1<<18)
}

// isBeginning tells whether what counts of the first records of a list is a beginning of what counts of all of it.
func isBeginning(l []api.Record, first int) bool {
	patches, n := replay.Committed(l[:first]...)
	all, most := replay.Committed(l...)
	return n <= first && n <= most && len(patches) <= len(all) && slices.EqualFunc(patches, all[:len(patches)], equal)
}

// P8.6: of each short list, and of long ones, for each number of first records.
func TestBeginnings(t *testing.T) {
	of := []api.Record{patch(1, 0, 1), commit(0), commit(1), commit(2), patch(1, 256, 1)}
	check := func(l []api.Record) {
		for first := range len(l) + 1 {
			if !isBeginning(l, first) {
				t.Fatalf("the first %d records of %v", first, briefly(l))
			}
		}
	}
	lists(of, 5, check)
	d := dice(86)
	for range 40 {
		l := d.sound(d.from(1, 9), d.from(0, 7))
		check(l)
		check(slices.Insert(l, d.from(0, len(l)), d.records(1)...))
	}
}

// P8.6: of a list that counts whole, its first records count up to their last commit.
func TestBeginningsOfSound(t *testing.T) {
	d := dice(87)
	l := d.sound(20, 6)
	var patches []api.Record
	n := 0
	for first := range len(l) {
		counts(t, l[:first], patches, n)
		if l[first].Kind == api.RcCommit {
			patches, n = committed(l[:first+1])
		}
	}
	counts(t, l, patches, len(l))
}
