package desk

import (
	"slices"

	"jalousie/api"
	"jalousie/lift"
	"jalousie/match"
	"jalousie/merge"
	"jalousie/patch"
	"jalousie/remap"
	"jalousie/tally"
	"jalousie/unified"
)

// merging is a patch of what one saw, on its way into what one sees.
type merging struct {
	sight      sight
	base, head state
	mine       []api.Line // what the patch makes of the base
	stays      [][2]int   // which lines of the base stand where in mine
	left       [][2]int   // which lines of the base stand where in the head
	pieces     []api.Piece
	items      []api.Item // all of the file, as the merge has them
}

// Preview is what a submit would make.
func (d *Desk) Preview(name string, o api.Label, k int, b []byte) ([]api.Line, api.Errno) {
	m, e := d.plan(name, o, k, b)
	switch e {
	case api.OK:
		return merge.Lines(m.pieces, m.base.view.Lines, m.mine, m.head.view.Lines)
	case api.ErrClash:
		// No error comes of pieces that were made of these texts.
		l, _ := merge.Marked(m.pieces, m.base.view.Lines, m.mine, m.head.view.Lines)
		return l, e
	}
	return nil, e
}

// Submit merges a patch in.
func (d *Desk) Submit(name string, o api.Label, k int, b []byte) (int, api.Errno) {
	m, e := d.plan(name, o, k, b)
	if e != api.OK {
		return 0, e
	}
	file := m.sight.file
	if e := file.Commit(o, m.items); e != api.OK {
		return 0, e
	}
	labels := file.Labels()
	own, _ := remap.Own(labels, o, len(labels)-1)
	return own, api.OK
}

// plan is what a submit would do, and why it may not be: Preview and Submit both ask it, so that they have the same errors. It changes nothing.
func (d *Desk) plan(name string, o api.Label, k int, b []byte) (merging, api.Errno) {
	s, e := d.look(name, o)
	if e != api.OK {
		return merging{}, e
	}
	m, e := s.patched(k, b)
	if e != api.OK {
		return merging{}, e
	}
	if e := m.merge(); e != api.OK {
		return m, e
	}
	// By itself: a call in the return's list may come behind the copy of m.
	e = m.lift(d.policy)
	return m, e
}

// patched is what a patch makes of a commit.
func (s sight) patched(k int, b []byte) (merging, api.Errno) {
	base, e := s.at(k)
	if e != api.OK {
		return merging{}, e
	}
	hunks, _, e := unified.Parse(b)
	if e != api.OK {
		return merging{}, api.ErrForm
	}
	mine, stays, e := patch.Apply(hunks, base.view.Lines)
	switch {
	case e == api.ErrLimit:
		return merging{}, e
	case e != api.OK:
		return merging{}, api.ErrApply
	}
	// It has Apply's error, which is none here.
	gone, _ := patch.Gone(hunks, base.view.Lines)
	if slices.ContainsFunc(gone, func(i int) bool { return !s.owns(base.item(i)) }) {
		return merging{}, api.ErrRight
	}
	return merging{sight: s, base: base, mine: mine, stays: stays}, api.OK
}

// owns: may one take an item out?
func (s sight) owns(one api.Item) bool {
	return !one.Anchor && one.Label == s.o
}

// merge has the patch meet what came in between. Its pieces are there with ErrClash, too.
func (m *merging) merge() api.Errno {
	m.head = m.sight.head()
	m.left = match.ByIDs(m.base.ids(), m.head.ids())
	var e api.Errno
	m.pieces, e = merge.Of(m.base.view.Lines, m.mine, m.head.view.Lines, m.stays, m.left)
	switch {
	case e != api.OK:
		return api.ErrLimit
	case !merge.Clean(m.pieces):
		return api.ErrClash
	}
	return api.OK
}

// lift brings the merge into the whole file, if it may be.
func (m *merging) lift(p api.Policy) api.Errno {
	o, file := m.sight.o, m.sight.file
	var e api.Errno
	m.items, _, e = lift.Lift(m.head.items, m.head.view, o, m.made(), file.Next())
	switch {
	case e == api.ErrRight:
		return e
	case e != api.OK:
		return api.ErrLimit
	}
	// The commit 0 was no submit.
	submits := file.Labels()[1:]
	if tally.Lines(m.items, o) > p.Lines || remap.Count(submits, o) >= p.Commits {
		return api.ErrQuota
	}
	return api.OK
}

// made is what is made of the head's view.
func (m *merging) made() []api.Made {
	// No error comes of pieces that are clean, and of these texts.
	from, _ := merge.From(m.pieces, len(m.head.view.Lines))
	stands := match.Compose(match.Invert(m.stays), m.left)
	var all []api.Made
	for _, place := range from {
		at, old := place.At, place.Theirs
		if !old {
			at, old = match.To(stands, place.At)
		}
		if old {
			all = append(all, api.Made{Old: true, At: at})
			continue
		}
		all = append(all, api.Made{Line: m.mine[place.At]})
	}
	return all
}
