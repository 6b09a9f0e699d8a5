package desk_test

import (
	"cmp"
	"slices"
	"strings"
	"testing"

	"jalousie/api"
	"jalousie/desk"
	"jalousie/hunk"
	"jalousie/item"
	"jalousie/label"
	"jalousie/merge"
	"jalousie/patch"
	"jalousie/policy"
	"jalousie/rank"
	"jalousie/script"
	"jalousie/text"
	"jalousie/unified"
)

// model is what a desk shall be: each commit of each file, with all its items, side by side.
type model struct {
	policy api.Policy
	files  map[string][]commit
}

type commit struct {
	label api.Label
	items []api.Item
}

func below(a, b api.Label) bool {
	return a.Level <= b.Level && a.Cats&^b.Cats == 0
}

func cut(l []api.Item, o api.Label) []api.Item {
	var seen []api.Item
	for _, one := range l {
		if below(one.Label, o) {
			seen = append(seen, one)
		}
	}
	return seen
}

// lines is what items are that one sees.
func (m *model) lines(seen []api.Item) []api.Line {
	var l []api.Line
	for i, one := range seen {
		line := api.Line{Text: one.Line.Text, Bare: one.Line.Bare && i == len(seen)-1}
		if one.Anchor {
			line.Text = m.policy.Hidden
		}
		l = append(l, line)
	}
	return l
}

// commits is those that one sees of a file; none, if one does not see it.
func (m *model) commits(name string, o api.Label) []commit {
	var seen []commit
	for _, one := range m.files[name] {
		if label.Right(o) && below(one.label, o) {
			seen = append(seen, one)
		}
	}
	return seen
}

func (m *model) head(name string) []api.Item {
	if all := m.files[name]; len(all) > 0 {
		return all[len(all)-1].items
	}
	return nil
}

// ingest is P24.1.
func (m *model) ingest(name string, b []byte) api.Errno {
	floor := policy.Floor(m.policy, name)
	items, _, e := item.Parse(b, m.policy, floor)
	switch {
	case name == "-" || !text.Name(name):
		return api.ErrForm
	case len(m.files[name]) > 0:
		return api.ErrKnown
	case e != api.OK:
		return e
	}
	for _, one := range items {
		if m.count(items, one.Label) > m.policy.Lines {
			return api.ErrQuota
		}
	}
	m.files[name] = []commit{{floor, items}}
	return api.OK
}

func (m *model) count(l []api.Item, a api.Label) int {
	n := 0
	for _, one := range l {
		if one.Label == a && !one.Anchor {
			n++
		}
	}
	return n
}

// plan is P24.4: what Preview tells, the items of the new commit, and the error.
func (m *model) plan(name string, o api.Label, k int, b []byte) ([]api.Line, []api.Item, api.Errno) {
	seen := m.commits(name, o)
	if k < 0 || k >= len(seen) {
		return nil, nil, api.ErrGone
	}
	hunks, _, e := unified.Parse(b)
	if e != api.OK {
		return nil, nil, api.ErrForm
	}
	base, head := cut(seen[k].items, o), cut(m.head(name), o)
	mine, stays, e := patch.Apply(hunks, m.lines(base))
	if e != api.OK {
		return nil, nil, map[api.Errno]api.Errno{api.ErrLimit: api.ErrLimit, api.ErrForm: api.ErrApply, api.ErrApply: api.ErrApply}[e]
	}
	from := map[int]int{} // of each line of mine that stays the ID of its item
	still := map[int]bool{}
	for _, pair := range stays {
		from[pair[1]] = base[pair[0]].ID
		still[base[pair[0]].ID] = true
	}
	if !m.mayGo(base, still, o) {
		return nil, nil, api.ErrRight
	}
	var left [][2]int
	for i, one := range base {
		if j := slices.IndexFunc(head, func(two api.Item) bool { return two.ID == one.ID }); j >= 0 {
			left = append(left, [2]int{i, j})
		}
	}
	pieces, e := merge.Of(m.lines(base), mine, m.lines(head), stays, left)
	if e != api.OK {
		return nil, nil, api.ErrLimit
	}
	if !merge.Clean(pieces) {
		l, _ := merge.Marked(pieces, m.lines(base), mine, m.lines(head))
		return l, nil, api.ErrClash
	}
	lines, _ := merge.Lines(pieces, m.lines(base), mine, m.lines(head))
	places, _ := merge.From(pieces, len(head))
	items, e := m.lift(name, o, places, lines, from)
	if e != api.OK {
		return nil, nil, e
	}
	return lines, items, api.OK
}

// mayGo: is all that does not stay a line of just this label?
func (m *model) mayGo(seen []api.Item, still map[int]bool, o api.Label) bool {
	return !slices.ContainsFunc(seen, func(one api.Item) bool {
		return !still[one.ID] && (one.Anchor || one.Label != o)
	})
}

// lift lays the lines of a merge into all items: behind each old one, by its ID, the new ones; behind 0 those ahead of all.
func (m *model) lift(name string, o api.Label, places []api.Place, lines []api.Line, from map[int]int) ([]api.Item, api.Errno) {
	all := m.head(name)
	head := cut(all, o)
	isHead := map[int]bool{}
	for _, one := range head {
		isHead[one.ID] = true
	}
	next := 1
	for _, c := range m.files[name] {
		for _, one := range c.items {
			next = max(next, one.ID+1)
		}
	}
	still, behind, last := map[int]bool{}, map[int][]api.Item{}, 0
	for i, place := range places {
		id := from[place.At]
		if place.Theirs {
			id = head[place.At].ID
		}
		if isHead[id] {
			still[id], last = true, id
			continue
		}
		behind[last] = append(behind[last], api.Item{ID: next, Label: o, Line: lines[i]})
		next++
	}
	if !m.mayGo(head, still, o) {
		return nil, api.ErrRight
	}
	made := slices.Clone(behind[0])
	for _, one := range all {
		if still[one.ID] || !isHead[one.ID] {
			made = append(made, one)
		}
		made = append(made, behind[one.ID]...)
	}
	commits := 0
	for _, c := range m.files[name][1:] {
		if c.label == o {
			commits++
		}
	}
	if m.count(made, o) > m.policy.Lines || commits >= m.policy.Commits {
		return nil, api.ErrQuota
	}
	return made, api.OK
}

// checkSights is P24.1 to P24.3, of all that one sees at a label.
func (m *model) checkSights(t *testing.T, d *desk.Desk, o api.Label) {
	t.Helper()
	var seen []string
	for name, all := range m.files {
		if below(all[0].label, o) {
			seen = append(seen, name)
		}
		items, labels := d.State(name)
		if !slices.Equal(items, m.head(name)) || len(labels) != len(all) {
			t.Fatalf("State(%s) = %v, %v, not %v", name, items, labels, all)
		}
		for i, c := range all {
			if labels[i] != c.label {
				t.Fatalf("State(%s) = %v, %v", name, items, labels)
			}
		}
	}
	slices.Sort(seen)
	if got := d.Names(o); !slices.Equal(got, seen) {
		t.Fatalf("Names(%v) = %v, not %v", o, got, seen)
	}
	for name := range m.files {
		m.checkFile(t, d, name, o)
	}
}

func (m *model) checkFile(t *testing.T, d *desk.Desk, name string, o api.Label) {
	t.Helper()
	seen := m.commits(name, o)
	gone := api.OK
	if len(seen) == 0 {
		gone = api.ErrGone
	}
	log, e := d.Log(name, o)
	if e != gone || len(log) != len(seen) {
		t.Fatalf("Log(%s, %v) = %v, %d", name, o, log, e)
	}
	var views [][]api.Line
	for k, c := range seen {
		l := cut(c.items, o)
		lines, e1 := d.Cat(name, o, k)
		labels, e2 := d.Labels(name, o, k)
		if e1 != api.OK || e2 != api.OK || log[k] != c.label || !slices.Equal(lines, m.lines(l)) || len(labels) != len(l) {
			t.Fatalf("%s at %v, commit %d: %v, %v, %v, not %v", name, o, k, log, lines, labels, l)
		}
		for i, one := range l {
			if labels[i] != one.Label {
				t.Fatalf("Labels(%s, %v, %d) = %v, not %v", name, o, k, labels, l)
			}
		}
		views = append(views, m.lines(l))
	}
	if _, e := d.Cat(name, o, len(seen)); e != api.ErrGone {
		t.Fatalf("Cat(%s, %v, %d): %d", name, o, len(seen), e)
	}
	m.checkDiffs(t, d, name, o, views)
	b, e := d.Rank(name, o)
	if e != gone || len(views) > 0 && string(b) != string(rank.Print(rank.All(views, views[len(views)-1]))) {
		t.Fatalf("Rank(%s, %v) = %s, %d", name, o, b, e)
	}
	b, e = d.Export(name, o)
	want, _ := item.Print(cut(m.head(name), o), policy.Floor(m.policy, name))
	if e != gone || e == api.OK && string(b) != string(want) {
		t.Fatalf("Export(%s, %v) = %s, %d, not %s", name, o, b, e, want)
	}
}

// checkDiffs is P24.3: what makes one view of another one.
func (m *model) checkDiffs(t *testing.T, d *desk.Desk, name string, o api.Label, views [][]api.Line) {
	t.Helper()
	for i, a := range views {
		for j, b := range views {
			n := (i + j) % (m.policy.Context + 1)
			got, e := d.Diff(name, o, i, j, n)
			s, _ := script.Make(a, b)
			l, _ := hunk.Build(s, n)
			want, _ := unified.Print(l)
			if e != api.OK || string(got) != string(want) {
				t.Fatalf("Diff(%s, %v, %d, %d, %d) = %s, %d, not %s", name, o, i, j, n, got, e, want)
			}
		}
	}
}

// source is what a script is made of: bytes, one after the other, and then zeros.
type source struct{ b []byte }

func (s *source) below(n int) int {
	if len(s.b) == 0 {
		return 0
	}
	c := s.b[0]
	s.b = s.b[1:]
	return int(c) % n
}

// step is what was asked, and what was answered.
type step struct {
	ingest bool
	name   string
	o      api.Label
	k      int
	body   []byte
	n      int
	lines  []api.Line
	e      api.Errno
}

// observers is labels of the policy of which some lie below each other, and some do not.
func observers() []api.Label {
	return []api.Label{of("0"), of("1"), of("0:1"), of("1:0"), of("2"), of("2:0,1")}
}

func files() []string {
	return []string{"a", "b", "mid"}
}

// marked is a file of a few lines and anchors.
func (s *source) marked(floor api.Label) []byte {
	var l []api.Item
	for i := range s.below(8) {
		a := label.Join(floor, observers()[s.below(5)])
		one := api.Item{ID: i + 1, Label: a, Anchor: s.below(4) == 3}
		if !one.Anchor {
			one.Line = api.Line{Text: string("xyz#"[s.below(4)]), Bare: s.below(6) == 5}
		}
		l = append(l, one)
	}
	b, _ := item.Print(l, floor)
	return b
}

// made is what becomes of lines that one sees: of one's own some go, and some come between.
func (s *source) made(seen []api.Item, lines []api.Line, o api.Label) []api.Line {
	var l []api.Line
	put := func() {
		for range 9 {
			if s.below(5) != 4 {
				return
			}
			l = append(l, api.Line{Text: []string{"x", "y", "z", "##", ""}[s.below(5)]})
		}
	}
	for i, one := range seen {
		put()
		bound := 30 // What is not one's own goes seldom.
		if one.Label == o && !one.Anchor {
			bound = 3
		}
		if s.below(bound) != bound-1 {
			l = append(l, lines[i])
			l[len(l)-1].Bare = false
		}
	}
	put()
	if n := len(l); n > 0 && l[n-1].Text != "" {
		l[n-1].Bare = s.below(4) == 3 || len(lines) > 0 && lines[len(lines)-1].Bare
	}
	return l
}

// next is the next step: an ingest, or a patch of what one sees at a label.
func (s *source) next(t *testing.T, m *model) step {
	one := step{name: files()[s.below(3)], o: observers()[s.below(6)]}
	floor := policy.Floor(m.policy, one.name)
	// What is not there comes soon, and what is there is asked for again seldom.
	one.ingest = s.below(20) == 0 == (len(m.files[one.name]) > 0)
	if one.ingest {
		one.body = s.marked(floor)
		return one
	}
	seen := m.commits(one.name, one.o)
	one.k = len(seen) - 1 - s.below(max(len(seen), 1))
	if one.k < 0 {
		one.k = s.below(3) - 1
		return one
	}
	l := cut(seen[one.k].items, one.o)
	one.body = patchOf(t, m.lines(l), s.made(l, m.lines(l), one.o), s.below(4))
	switch s.below(16) {
	case 14: // It becomes a patch of another form.
		if len(one.body) > 0 {
			one.body[s.below(len(one.body))] = "-+ @x1\n"[s.below(7)]
		}
	case 15: // It is a patch of another commit.
		one.k = s.below(len(seen))
	}
	return one
}

// do has a desk do a step; the step then has what was answered.
func (one *step) do(d *desk.Desk) {
	if one.ingest {
		one.e = d.Ingest(one.name, one.body)
		return
	}
	var e api.Errno
	one.lines, e = d.Preview(one.name, one.o, one.k, one.body)
	one.n, one.e = d.Submit(one.name, one.o, one.k, one.body)
	if e != one.e {
		one.e = -1 // Both have the same errors: this is none that is expected.
	}
}

// expect is what the model answers, and becomes.
func (m *model) expect(t *testing.T, one step) {
	t.Helper()
	if one.ingest {
		if e := m.ingest(one.name, one.body); e != one.e {
			t.Fatalf("Ingest(%s, %q): %d, not %d", one.name, one.body, one.e, e)
		}
		return
	}
	lines, items, e := m.plan(one.name, one.o, one.k, one.body)
	if e != one.e || !slices.Equal(lines, one.lines) {
		t.Fatalf("%s at %v of %d, %s: %v, %d, not %v, %d; of %v", one.name, one.o, one.k, one.body, one.lines, one.e, lines, e, m.files[one.name])
	}
	if e != api.OK {
		if one.n != 0 {
			t.Fatalf("refused: %d", one.n)
		}
		return
	}
	was, before := m.head(one.name), len(m.commits(one.name, one.o))
	m.files[one.name] = append(m.files[one.name], commit{one.o, items})
	if one.n != before {
		t.Fatalf("%s at %v of %d: %d, not %d", one.name, one.o, one.k, one.n, before)
	}
	m.checkSubmit(t, one, was, items)
}

// texts is the Texts of lines.
func texts(l []api.Line) string {
	s := ""
	for _, one := range l {
		s += one.Text + "\n"
	}
	return s
}

// checkSubmit is P24.6 and P24.7, and V4's quotas.
func (m *model) checkSubmit(t *testing.T, one step, was, is []api.Item) {
	t.Helper()
	others := func(l []api.Item) []api.Item {
		return slices.DeleteFunc(slices.Clone(l), func(x api.Item) bool { return x.Label == one.o && !x.Anchor })
	}
	if !slices.Equal(others(was), others(is)) {
		t.Fatalf("%v at %v became %v", was, one.o, is)
	}
	for _, o := range observers() {
		if !below(one.o, o) && !slices.Equal(cut(was, o), cut(is, o)) {
			t.Fatalf("%v at %v became %v: %v sees it", was, one.o, is, o)
		}
	}
	if got := texts(m.lines(cut(is, one.o))); got != texts(one.lines) {
		t.Fatalf("%v became %v, of which %q is seen, not %q", was, is, got, texts(one.lines))
	}
	for _, a := range is {
		if m.count(is, a.Label) > m.policy.Lines {
			t.Fatalf("%v has too many lines of %v", is, a.Label)
		}
	}
	times := map[api.Label]int{}
	for _, c := range m.files[one.name][1:] {
		if times[c.label]++; times[c.label] > m.policy.Commits {
			t.Fatalf("too many commits of %v", c.label)
		}
	}
}

// checkLast is P24.7: a patch of the last commit that one sees is no clash, and makes what it says.
func (m *model) checkLast(t *testing.T, one step) {
	t.Helper()
	seen := m.commits(one.name, one.o)
	hunks, _, e := unified.Parse(one.body)
	if one.ingest || len(seen) == 0 || one.k != len(seen)-1 || e != api.OK {
		return
	}
	l := m.lines(cut(seen[one.k].items, one.o))
	made, _, e := patch.Apply(hunks, l)
	if one.e == api.ErrClash || one.e == api.OK && (e != api.OK || texts(made) != texts(one.lines)) {
		t.Fatalf("%v, %s: %v, %d, not %v", l, one.body, one.lines, one.e, made)
	}
}

// purged is what is left of steps for whom reads o alone, which changes none of them.
func purged(p api.Policy, steps []step, o api.Label) []step {
	var left []step
	for _, one := range steps {
		floor := policy.Floor(p, one.name)
		switch {
		case !one.ingest && below(one.o, o):
			left = append(left, one)
		case one.ingest && one.e == api.OK && below(floor, o):
			items, _, _ := item.Parse(one.body, p, floor)
			one.body, _ = item.Print(cut(items, o), floor)
			left = append(left, one)
		}
	}
	return left
}

// sights is all that one is told at a label.
func sights(d *desk.Desk, o api.Label) string {
	var all []string
	for _, name := range d.Names(o) {
		log, _ := d.Log(name, o)
		export, _ := d.Export(name, o)
		rank, _ := d.Rank(name, o)
		all = append(all, name, names(log), string(export), string(rank))
		for k := range log {
			lines, _ := d.Cat(name, o, k)
			labels, _ := d.Labels(name, o, k)
			diff, _ := d.Diff(name, o, k, len(log)-1, 1)
			all = append(all, string(text.Join(lines)), names(labels), string(diff))
		}
	}
	return strings.Join(all, "\n\n")
}

// checkBlind is P24.5: what one may not read plays no part in what one is answered.
func checkBlind(t *testing.T, d *desk.Desk, p api.Policy, steps []step, o api.Label) {
	t.Helper()
	blind := begin(t, p)
	for _, one := range purged(p, steps, o) {
		again := step{ingest: one.ingest, name: one.name, o: one.o, k: one.k, body: one.body}
		again.do(blind)
		if again.e != one.e || again.n != one.n || !slices.Equal(again.lines, one.lines) {
			t.Fatalf("at %v: %v, without all above %v", one, again, o)
		}
	}
	for _, a := range observers() {
		if below(a, o) && sights(blind, a) != sights(d, a) {
			t.Fatalf("at %v:\n%s\nwithout all above %v:\n%s", a, sights(d, a), o, sights(blind, a))
		}
	}
}

// runScript is a script, step by step, and all that is promised of it; told is how often each error was answered.
func runScript(t *testing.T, b []byte, told map[api.Errno]int) {
	t.Helper()
	s := &source{b}
	p := plain()
	p.Levels = 3
	m := &model{policy: p, files: map[string][]commit{}}
	d := begin(t, p)
	var steps []step
	for i := 0; len(s.b) > 0 && i < 40; i++ {
		one := s.next(t, m)
		sent := slices.Clone(one.body)
		f := d.Fork()
		if i%2 == 0 { // Both become what they become, and the other one stays.
			d, f = f, d
		}
		was := sights(f, of("2:0,1"))
		one.do(d)
		if sights(f, of("2:0,1")) != was || !slices.Equal(one.body, sent) {
			t.Fatalf("%v changed another desk, or what was handed in", one)
		}
		m.checkLast(t, one)
		m.expect(t, one)
		m.checkSights(t, d, observers()[i%6])
		steps = append(steps, one)
		told[one.e]++
	}
	for _, o := range observers() {
		m.checkSights(t, d, o)
		checkBlind(t, d, p, steps, o)
	}
}

// counted is what was answered, the error first that was it most often.
func counted(told map[api.Errno]int) [][2]int {
	var all [][2]int
	for e, n := range told {
		all = append(all, [2]int{int(e), n})
	}
	slices.SortFunc(all, func(a, b [2]int) int { return cmp.Or(cmp.Compare(b[1], a[1]), cmp.Compare(a[0], b[0])) })
	return all
}
