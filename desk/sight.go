package desk

import (
	"jalousie/api"
	"jalousie/history"
	"jalousie/hunk"
	"jalousie/item"
	"jalousie/rank"
	"jalousie/remap"
	"jalousie/script"
	"jalousie/unified"
	"jalousie/view"
)

// sight is a file that one sees, at a label.
type sight struct {
	file   *history.History
	o      api.Label
	hidden string
}

// state is items of a file, and what one sees of them.
type state struct {
	items []api.Item
	view  api.View
}

// item is that of the line i that one sees.
func (s state) item(i int) api.Item {
	return s.items[s.view.At[i]]
}

// labels is those of the lines that one sees.
func (s state) labels() []api.Label {
	var l []api.Label
	for i := range s.view.At {
		l = append(l, s.item(i).Label)
	}
	return l
}

// ids is those of the lines that one sees.
func (s state) ids() []int {
	return view.IDs(s.items, s.view)
}

// look is what one sees of a file. Of one that one may not see the answer is that of one that is not there.
func (d *Desk) look(name string, o api.Label) (sight, api.Errno) {
	if d.none() {
		return sight{}, api.ErrNil
	}
	h := d.files[name]
	if h == nil || !sees(h, o) {
		return sight{}, api.ErrGone
	}
	return sight{file: h, o: o, hidden: d.policy.Hidden}, api.OK
}

// of is items with what one sees of them.
func (s sight) of(items []api.Item) state {
	return state{items: items, view: view.Of(items, s.o, s.hidden)}
}

// head is the last commit of all: one sees no other lines of it than of the last one that one sees.
func (s sight) head() state {
	return s.of(s.file.Head())
}

// at is a commit by one's own number.
func (s sight) at(k int) (state, api.Errno) {
	rev, is := remap.Full(s.file.Labels(), s.o, k)
	if !is {
		return state{}, api.ErrGone
	}
	items, e := s.file.At(rev)
	return s.of(items), e
}

// commit is a file's commit by one's own number.
func (d *Desk) commit(name string, o api.Label, k int) (state, api.Errno) {
	s, e := d.look(name, o)
	if e != api.OK {
		return state{}, e
	}
	return s.at(k)
}

// Log is the labels of the commits that one sees.
func (d *Desk) Log(name string, o api.Label) ([]api.Label, api.Errno) {
	s, e := d.look(name, o)
	if e != api.OK {
		return nil, e
	}
	all := s.file.Labels()
	var l []api.Label
	for _, rev := range remap.Seen(all, o) {
		l = append(l, all[rev])
	}
	return l, api.OK
}

// Cat is the lines that one sees.
func (d *Desk) Cat(name string, o api.Label, k int) ([]api.Line, api.Errno) {
	one, e := d.commit(name, o, k)
	return one.view.Lines, e
}

// Labels is the labels of the lines that one sees.
func (d *Desk) Labels(name string, o api.Label, k int) ([]api.Label, api.Errno) {
	one, e := d.commit(name, o, k)
	return one.labels(), e
}

// Diff is what makes one commit of another one.
func (d *Desk) Diff(name string, o api.Label, a, b, c int) ([]byte, api.Errno) {
	from, e := d.commit(name, o, a)
	if e != api.OK {
		return nil, e
	}
	to, e := d.commit(name, o, b)
	if e != api.OK {
		return nil, e
	}
	if c < 0 || c > d.policy.Context {
		return nil, api.ErrArg
	}
	p, e := difference(from.view.Lines, to.view.Lines, c)
	if e != api.OK {
		return nil, api.ErrLimit
	}
	return p, api.OK
}

// difference is what makes one text of another one, in the unified form.
func difference(a, b []api.Line, context int) ([]byte, api.Errno) {
	s, e := script.Make(a, b)
	if e != api.OK {
		return nil, e
	}
	l, e := hunk.Build(s, context)
	if e != api.OK {
		return nil, e
	}
	return unified.Print(l)
}

// Export is a file, with its marks, as far as one sees it.
func (d *Desk) Export(name string, o api.Label) ([]byte, api.Errno) {
	s, e := d.look(name, o)
	if e != api.OK {
		return nil, e
	}
	b, e := item.Print(view.Cut(s.file.Head(), o), s.file.Floor())
	if e != api.OK {
		return nil, api.ErrLimit
	}
	return b, api.OK
}

// Rank is how much the commits that one sees are like the last one.
func (d *Desk) Rank(name string, o api.Label) ([]byte, api.Errno) {
	s, e := d.look(name, o)
	if e != api.OK {
		return nil, e
	}
	var views [][]api.Line
	for k := range remap.Seen(s.file.Labels(), o) {
		// No error comes of a commit that one sees.
		one, _ := s.at(k)
		views = append(views, one.view.Lines)
	}
	// There is a last one: who sees the file sees its commit 0.
	return rank.Print(rank.All(views, views[len(views)-1])), api.OK
}
