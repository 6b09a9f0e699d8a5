package history_test

import (
	"math"
	"math/rand"
	"slices"
	"strconv"
	"strings"
	"testing"

	"jalousie/api"
	"jalousie/delta"
	"jalousie/history"
	"jalousie/item"
	"jalousie/label"
)

// of is a label by its text.
func of(s string) api.Label {
	a, is := label.Parse(s)
	if !is {
		panic("no label: " + s)
	}
	return a
}

// row is items at a label, a letter each, whose ID is 1 for a, 2 for b, ...
func row(a, letters string) []api.Item {
	var l []api.Item
	for i := range len(letters) {
		l = append(l, api.Item{ID: int(letters[i]-'a') + 1, Label: of(a), Line: api.Line{Text: letters[i : i+1]}})
	}
	return l
}

// numbered is items at the bottom with these IDs.
func numbered(ids ...int) []api.Item {
	var l []api.Item
	for _, id := range ids {
		l = append(l, api.Item{ID: id})
	}
	return l
}

func sameDelta(a, b []api.Part) bool {
	return slices.EqualFunc(a, b, func(x, y api.Part) bool {
		return x.At == y.At && x.N == y.N && slices.Equal(x.Items, y.Items)
	})
}

// model is what a history shall be: all that was committed, side by side.
type model struct {
	labels  []api.Label
	commits [][]api.Item
}

func (m *model) commit(a api.Label, l []api.Item) {
	m.labels = append(slices.Clone(m.labels), a)
	m.commits = append(slices.Clone(m.commits), slices.Clone(l))
}

func (m *model) next() int {
	n := 1
	for _, l := range m.commits {
		for _, one := range l {
			n = max(n, one.ID+1)
		}
	}
	return n
}

// check is P16.1 to P16.4, of a history to which that was committed.
func (m *model) check(t *testing.T, h *history.History) {
	t.Helper()
	last := len(m.commits) - 1
	if h.Floor() != m.labels[0] || !slices.Equal(h.Labels(), m.labels) || h.Next() != m.next() {
		t.Fatalf("%v: floor %v, labels %v, next %d", m, h.Floor(), h.Labels(), h.Next())
	}
	for rev, want := range m.commits {
		if l, e := h.At(rev); e != api.OK || !slices.Equal(l, want) {
			t.Fatalf("%v: At(%d) = %v, %d", m, rev, l, e)
		}
	}
	for _, rev := range []int{-1, last + 1, math.MinInt, math.MaxInt} {
		if l, e := h.At(rev); e != api.ErrGone || len(l) > 0 {
			t.Fatalf("%v: At(%d) = %v, %d", m, rev, l, e)
		}
	}
	head, deltas := h.Head(), h.Deltas()
	if !slices.Equal(head, m.commits[last]) || len(deltas) != last {
		t.Fatalf("%v: head %v, deltas %v", m, head, deltas)
	}
	for rev := last - 1; rev >= 0; rev-- {
		if !sameDelta(deltas[rev], delta.Make(m.commits[rev+1], m.commits[rev])) {
			t.Fatalf("%v: deltas %v", m, deltas)
		}
		var e api.Errno
		if head, e = delta.Apply(head, deltas[rev]); e != api.OK || !slices.Equal(head, m.commits[rev]) {
			t.Fatalf("%v: %v make %v, %d, of %d", m, deltas, head, e, rev)
		}
	}
}

// begin is a history of one commit, and what it shall be.
func begin(t *testing.T, floor api.Label, l []api.Item) (*history.History, *model) {
	t.Helper()
	h, e := history.New(floor, l)
	if e != api.OK || h == nil {
		t.Fatalf("New(%v, %v): %d", floor, l, e)
	}
	m := &model{}
	m.commit(floor, l)
	m.check(t, h)
	return h, m
}

// add is a commit that may be.
func add(t *testing.T, h *history.History, m *model, a api.Label, l []api.Item) {
	t.Helper()
	if e := h.Commit(a, l); e != api.OK {
		t.Fatalf("Commit(%v, %v): %d", a, l, e)
	}
	m.commit(a, l)
	m.check(t, h)
}

// P16.1: New, of items that may be.
func TestNew(t *testing.T) {
	all := []api.Item{
		{ID: 5, Label: of("2:1"), Line: api.Line{Text: "x", Bare: true}},
		{ID: 2, Label: of("2:0,1"), Anchor: true},
		{ID: 9, Label: api.Label{Level: 15, Cats: math.MaxUint64}, Line: api.Line{Text: strings.Repeat("\xff", 200)}},
		{ID: 1, Label: of("2:1")},
	}
	for _, c := range []struct {
		floor api.Label
		l     []api.Item
		next  int
	}{
		{api.Label{}, nil, 1},
		{of("3:5"), []api.Item{}, 1},
		{api.Label{}, row("0", "ab"), 3},
		{api.Label{}, row("1", "ba"), 3},
		{of("2:1"), all, 10},
		{api.Label{}, all, 10},
		{of("2"), all[1:3], 10},
		{of("1"), all[3:], 2},
		{api.Label{}, numbered(1), 2},
		{api.Label{}, numbered(api.MaxNum - 1), api.MaxNum},
		{api.Label{}, numbered(7, api.MaxNum-1, 1), api.MaxNum},
		// Of a floor that is not right nothing is said but what item.Check says of items.
		{api.Label{Level: -1}, row("0", "a"), 2},
		{api.Label{Level: 16}, nil, 1},
		{api.Label{Level: math.MinInt, Cats: 1}, row("0:0", "a"), 2},
	} {
		h, _ := begin(t, c.floor, c.l)
		if h.Next() != c.next || len(h.Labels()) != 1 || len(h.Deltas()) != 0 {
			t.Errorf("New(%v, %v): next %d, labels %v, deltas %v", c.floor, c.l, h.Next(), h.Labels(), h.Deltas())
		}
	}
}

// faults is items that may not be at the floor 1, and what is wrong with them.
func faults() []struct {
	what string
	l    []api.Item
	want api.Errno
} {
	with := func(change func(l []api.Item)) []api.Item {
		l := row("1", "abc")
		change(l)
		return l
	}
	id := func(n int) []api.Item { return with(func(l []api.Item) { l[2].ID = n }) }
	long := strings.Repeat("x", api.MaxText+1)
	return []struct {
		what string
		l    []api.Item
		want api.Errno
	}{
		{"a long text", with(func(l []api.Item) { l[1].Line.Text = long }), api.ErrLimit},
		{"a label that is not right", with(func(l []api.Item) { l[1].Label.Level = 16 }), api.ErrLabel},
		{"a label below the floor", with(func(l []api.Item) { l[2].Label.Level = 0 }), api.ErrLabel},
		{"a text of two lines", with(func(l []api.Item) { l[0].Line.Text = "x\n" }), api.ErrForm},
		{"empty and Bare", with(func(l []api.Item) { l[2].Line = api.Line{Bare: true} }), api.ErrForm},
		{"an anchor with a text", with(func(l []api.Item) { l[1].Anchor = true }), api.ErrForm},
		{"the ID 0", id(0), api.ErrArg},
		{"an ID below 0", id(-1), api.ErrArg},
		{"an ID far below 0", id(math.MinInt), api.ErrArg},
		{"the ID MaxNum", id(api.MaxNum), api.ErrArg},
		{"an ID above MaxNum", id(api.MaxNum + 1), api.ErrArg},
		{"an ID far above MaxNum", id(math.MaxInt), api.ErrArg},
		{"an ID that is there", id(2), api.ErrArg},
		{"the first ID again", id(1), api.ErrArg},
		{"the same item twice", with(func(l []api.Item) { l[1] = l[0] }), api.ErrArg},
		// What item.Check tells counts first.
		{"all of it", with(func(l []api.Item) {
			l[0], l[1].Label, l[2].Line.Text = api.Item{ID: -1, Label: of("1"), Line: api.Line{Text: "\n"}}, of("0"), long
		}), api.ErrLimit},
		{"IDs, a form and a label", with(func(l []api.Item) {
			l[0], l[2].Label = api.Item{ID: 2, Label: of("1"), Line: api.Line{Text: "\n"}}, of("0")
		}), api.ErrLabel},
		{"IDs and a form", with(func(l []api.Item) { l[0].ID, l[2].Line.Text = 2, "\n" }), api.ErrForm},
	}
}

// P16.1, P2: what New refuses.
func TestNewErrors(t *testing.T) {
	for _, c := range faults() {
		if h, e := history.New(of("1"), c.l); e != c.want || h != nil {
			t.Errorf("%s: %v, %d; not %d", c.what, h, e, c.want)
		}
	}
	for _, floor := range []api.Label{{Level: 16}, {Level: math.MaxInt}, of("2"), of("1:3")} {
		if h, e := history.New(floor, row("1", "a")); e != api.ErrLabel || h != nil {
			t.Errorf("%v: %v, %d", floor, h, e)
		}
	}
	for _, ids := range [][]int{{1, 1}, {3, 1, 2, 3}, {5, 0}, {0}, {1, 2, -2}, {api.MaxNum}} {
		if h, e := history.New(api.Label{}, numbered(ids...)); e != api.ErrArg || h != nil {
			t.Errorf("%v: %v, %d", ids, h, e)
		}
	}
}

// P16.2: Commit, and what it refuses: that changes nothing.
func TestCommit(t *testing.T) {
	h, m := begin(t, of("1"), row("1", "ab"))
	for _, c := range []struct {
		a string
		l []api.Item
	}{
		{"1", row("1", "a")},
		{"2:0", row("1", "acb")},
		{"15:0,63", nil},
		{"1", row("3:3", "cba")},
		{"1", row("3:3", "cba")},
		{"3", slices.Concat(row("3", "x"), row("1:2", "a"), row("2", "bd"))},
	} {
		add(t, h, m, of(c.a), c.l)
		for _, wrong := range faults() {
			if e := h.Commit(of("2"), wrong.l); e != wrong.want {
				t.Errorf("%s: %d; not %d", wrong.what, e, wrong.want)
			}
			m.check(t, h)
		}
		for _, a := range []api.Label{{}, {Level: -1}, {Level: 16}, {Level: math.MaxInt, Cats: math.MaxUint64}, {Level: math.MinInt}, of("0:0")} {
			// The commit's label counts ahead of what is wrong with its items.
			for _, l := range [][]api.Item{row("1", "a"), nil, faults()[0].l, faults()[6].l} {
				if e := h.Commit(a, l); e != api.ErrLabel {
					t.Errorf("Commit(%v, %v): %d", a, l, e)
				}
				m.check(t, h)
			}
		}
	}
}

// P16.2: a commit's label lies above the floor; its items' need not lie below that.
func TestCommitLabels(t *testing.T) {
	h, m := begin(t, of("2:1"), nil)
	for _, s := range []string{"2:1", "2:0,1", "3:1", "15:1"} {
		add(t, h, m, of(s), row("9:1,2", "a"))
	}
	for _, s := range []string{"2", "1:1", "3", "2:0", "15:0,2"} {
		if e := h.Commit(of(s), nil); e != api.ErrLabel {
			t.Errorf("%s: %d", s, e)
		}
		m.check(t, h)
	}
	h, m = begin(t, api.Label{Level: -1}, nil)
	if e := h.Commit(api.Label{Level: -1}, nil); e != api.ErrLabel {
		t.Errorf("a floor that is not right: %d", e)
	}
	add(t, h, m, of("0"), row("0", "a"))
}

// P16.1: Next is above all IDs that ever were, not above the head's alone.
func TestNext(t *testing.T) {
	h, m := begin(t, api.Label{}, nil)
	for _, c := range []struct {
		ids  []int
		next int
	}{
		{nil, 1}, {[]int{3}, 4}, {[]int{1, 2}, 4}, {nil, 4}, {[]int{3}, 4}, {[]int{2, 9, 4}, 10}, {[]int{8}, 10}, {[]int{api.MaxNum - 1}, api.MaxNum}, {[]int{1}, api.MaxNum},
	} {
		add(t, h, m, api.Label{}, numbered(c.ids...))
		if h.Next() != c.next {
			t.Errorf("%v: %d", c.ids, h.Next())
		}
	}
	if e := h.Commit(api.Label{}, numbered(api.MaxNum)); e != api.ErrArg || h.Next() != api.MaxNum {
		t.Errorf("%d, next %d", e, h.Next())
	}
}

// P16.2: the document's example.
func TestDeltas(t *testing.T) {
	h, m := begin(t, api.Label{}, row("0", "ab"))
	add(t, h, m, api.Label{}, row("0", "a"))
	if d := h.Deltas(); len(d) != 1 || !sameDelta(d[0], []api.Part{{N: 1}, {Items: row("0", "ab")[1:]}}) {
		t.Errorf("%v", d)
	}
}

// lists is all rows of up to 2 of three items, none twice, and those with another one of the same ID.
func lists() [][]api.Item {
	l := [][]api.Item{nil}
	some := append(row("0", "abc"), api.Item{ID: 1, Label: of("1"), Anchor: true})
	for _, one := range some {
		l = append(l, []api.Item{one})
		for _, other := range some {
			if one.ID != other.ID {
				l = append(l, []api.Item{one, other})
			}
		}
	}
	return l
}

// P16.1 to P16.4: of all short histories.
func TestAll(t *testing.T) {
	for _, one := range lists() {
		for _, other := range lists() {
			for _, last := range lists() {
				h, m := begin(t, api.Label{}, one)
				add(t, h, m, of("1"), other)
				add(t, h, m, of("0:3"), last)
			}
		}
	}
}

// P16.3: of many commits, each stays as it was, whatever came behind.
func TestMany(t *testing.T) {
	l := row("0", "abc")
	h, m := begin(t, api.Label{}, l)
	for k := range 600 {
		one := api.Item{ID: h.Next(), Label: of(strconv.Itoa(k % 16)), Line: api.Line{Text: strconv.Itoa(k)}}
		l = slices.Insert(slices.Clone(l), k*7%len(l), one)
		if k%3 == 0 {
			at := k * 5 % len(l)
			l = slices.Delete(l, at, at+1)
		}
		if e := h.Commit(one.Label, l); e != api.OK {
			t.Fatal(k, e)
		}
		m.commit(one.Label, l)
	}
	m.check(t, h)
}

// P16.2: of nil.
func TestNil(t *testing.T) {
	var h *history.History
	for _, rev := range []int{0, -1, 1, math.MaxInt} {
		if l, e := h.At(rev); e != api.ErrNil || len(l) > 0 {
			t.Errorf("At(%d) = %v, %d", rev, l, e)
		}
	}
	for _, a := range []api.Label{{}, {Level: -1}} {
		if e := h.Commit(a, row("0", "aa")); e != api.ErrNil {
			t.Errorf("Commit: %d", e)
		}
	}
	if len(h.Head()) > 0 || len(h.Labels()) > 0 || len(h.Deltas()) > 0 || h.Floor() != (api.Label{}) || h.Next() != 0 || h.Fork() != nil {
		t.Errorf("%v, %v, %v, %v, %d, %v", h.Head(), h.Labels(), h.Deltas(), h.Floor(), h.Next(), h.Fork())
	}
}

// P1: a history that no call made is answered, too.
func TestNoCallMade(t *testing.T) {
	h := &history.History{}
	h.Head()
	h.At(0)
	h.Labels()
	h.Floor()
	h.Next()
	h.Deltas()
	f := h.Fork()
	f.Commit(of("1"), row("0", "ab"))
	f.Commit(of("1"), row("0", "b"))
	for rev := range 4 {
		f.At(rev)
	}
	f.Deltas()
}

// P4: of a history and its Fork, what becomes of the one changes nothing of the other one.
func TestFork(t *testing.T) {
	h, m := begin(t, api.Label{}, row("0", "ab"))
	for k := range 40 {
		f, n := h.Fork(), *m
		n.check(t, f)
		add(t, f, &n, of("2"), row("0", "xy"))
		m.check(t, h)
		add(t, h, m, of("1"), row("0", "abcdefgh"[:k%8]))
		n.check(t, f)
		g, o := f.Fork(), n
		add(t, f, &n, of("3"), row("0", "z"))
		o.check(t, g)
		add(t, g, &o, of("4"), row("1", "w"))
		n.check(t, f)
		m.check(t, h)
	}
}

// P4, P16.2 to P16.4: of many histories that come from one, each is forked or gets a commit by turns.
func TestForks(t *testing.T) {
	turn := rand.New(rand.NewSource(8))
	h, m := begin(t, api.Label{}, row("0", "ab"))
	all, models := []*history.History{h}, []*model{m}
	for range 400 {
		k := turn.Intn(len(all))
		if turn.Intn(4) == 0 && len(all) < 12 {
			n := *models[k]
			all, models = append(all, all[k].Fork()), append(models, &n)
			continue
		}
		l, a := lists()[turn.Intn(len(lists()))], api.Label{Level: turn.Intn(3)}
		if e := all[k].Commit(a, l); e != api.OK {
			t.Fatal(e)
		}
		models[k].commit(a, l)
		if turn.Intn(10) == 0 {
			for i := range all {
				models[i].check(t, all[i])
			}
		}
	}
	for i := range all {
		models[i].check(t, all[i])
	}
}

// spoil writes into all of a list, and behind it.
func spoil[E any](l []E, with E) {
	l = l[:cap(l)]
	for i := range l {
		l[i] = with
	}
}

// P3: what is handed in stays as it is, spare room too, and is not kept.
func TestArgumentsStay(t *testing.T) {
	l, other := row("0", "abcxyz"), row("0", "dacdd")
	was, last := slices.Clone(l), slices.Clone(other)
	h, e := history.New(api.Label{}, l[:3])
	if e != api.OK || h.Commit(of("1"), other[:3]) != api.OK || h.Commit(of("2"), l[:2]) != api.OK || h.Commit(of("2"), l[:4]) != api.OK {
		t.Fatal(e)
	}
	if _, e := history.New(api.Label{}, other[:4]); e != api.ErrArg || h.Commit(of("1"), other[:4]) != api.ErrArg {
		t.Fatal(e)
	}
	if !slices.Equal(l, was) || !slices.Equal(other, last) {
		t.Fatalf("left: %v, %v", l, other)
	}
	m := &model{}
	m.commit(api.Label{}, was[:3])
	m.commit(of("1"), last[:3])
	m.commit(of("2"), was[:2])
	m.commit(of("2"), was[:4])
	spoil(l, api.Item{ID: 99})
	spoil(other, api.Item{ID: 99})
	m.check(t, h)
}

// P3: what is answered is new memory, of a Fork, too.
func TestAnswersAreNew(t *testing.T) {
	h, m := begin(t, api.Label{}, row("0", "abc"))
	add(t, h, m, of("1"), row("0", "dbxy"))
	add(t, h, m, of("2"), row("0", "de"))
	f := h.Fork()
	for _, one := range []*history.History{h, f} {
		spoil(one.Head(), api.Item{ID: 99})
		for rev := range 3 {
			l, _ := one.At(rev)
			spoil(l, api.Item{ID: 99})
		}
		spoil(one.Labels(), of("9"))
		d := one.Deltas()
		for i := range d {
			for k := range d[i] {
				spoil(d[i][k].Items, api.Item{ID: 99})
			}
			spoil(d[i], api.Part{At: 99})
		}
		spoil(d, nil)
		m.check(t, h)
		m.check(t, f)
	}
}

// P3: no two lists of one answer share any memory.
func TestDeltasAreApart(t *testing.T) {
	h, m := begin(t, api.Label{}, row("0", "abc"))
	add(t, h, m, of("1"), row("0", "bxy"))
	add(t, h, m, of("2"), row("0", "dez"))
	d, want := h.Deltas(), h.Deltas()
	for i := range d {
		if !sameDelta(d[i], want[i]) {
			t.Fatalf("%v, not %v", d, want)
		}
		for k := range d[i] {
			if !slices.Equal(d[i][k].Items, want[i][k].Items) {
				t.Fatalf("%v, not %v", d, want)
			}
			spoil(d[i][k].Items, api.Item{ID: 99})
		}
		spoil(d[i], api.Part{At: 99})
	}
}

// FuzzHistory is P1 to P4, P16.1 to P16.4: of any row of commits, of which some may not be.
func FuzzHistory(f *testing.F) {
	f.Add("ab\na\n", 0, uint64(0), 0)
	f.Add("abc\ncab\n\nx~y\nabcd", 2, uint64(3), 1)
	f.Add("a\naa\n-\n!\n", 15, uint64(math.MaxUint64), 2)
	f.Fuzz(func(t *testing.T, s string, level int, cats uint64, skip int) {
		if len(s) > 500 {
			return
		}
		floor := api.Label{Level: level, Cats: cats & 5}
		texts := strings.Split(s, "\n")
		h, e := history.New(floor, items(texts[0], level, cats))
		if want := newFault(items(texts[0], level, cats), floor); e != want || (h == nil) != (e != api.OK) {
			t.Fatalf("New(%v, %q): %v, %d; not %d", floor, texts[0], h, e, want)
		}
		m := &model{}
		m.commit(floor, items(texts[0], level, cats))
		for k, one := range texts[1:] {
			a := api.Label{Level: level + k%3 - skip%2, Cats: cats >> (uint(skip) % 4)}
			l := items(one, level, cats)
			want := newFault(l, floor)
			if !label.Right(a) || !label.Below(floor, a) {
				want = api.ErrLabel
			}
			if h == nil {
				want = api.ErrNil
			}
			g := h.Fork()
			if e := g.Commit(a, l); e != want {
				t.Fatalf("Commit(%v, %q): %d; not %d", a, one, e, want)
			}
			if h == nil {
				continue
			}
			m.check(t, h)
			if want == api.OK {
				h = g
				m.commit(a, l)
			}
			m.check(t, h)
			m.check(t, g)
		}
	})
}

// items is one for each byte, by which its fields are told.
func items(s string, level int, cats uint64) []api.Item {
	var l []api.Item
	for i := range len(s) {
		one := api.Item{ID: int(s[i]) - '0', Label: api.Label{Level: level + int(s[i]>>6), Cats: cats}, Line: api.Line{Text: s[i : i+1], Bare: s[i] == '~'}}
		if s[i] == '!' {
			one.Line.Text = strings.Repeat("!", 201)
		}
		l = append(l, one)
	}
	return l
}

// newFault is what is wrong with a commit's items, as the document tells it.
func newFault(l []api.Item, floor api.Label) api.Errno {
	if e := item.Check(l, floor); e != api.OK {
		return e
	}
	var ids []int
	for _, one := range l {
		if one.ID < 1 || one.ID >= api.MaxNum || slices.Contains(ids, one.ID) {
			return api.ErrArg
		}
		ids = append(ids, one.ID)
	}
	return api.OK
}
