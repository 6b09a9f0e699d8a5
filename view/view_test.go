package view_test

import (
	"bytes"
	"math"
	"slices"
	"strconv"
	"testing"

	"jalousie/api"
	"jalousie/label"
	"jalousie/view"
)

// of is a label by its text.
func of(s string) api.Label {
	a, is := label.Parse(s)
	if !is {
		panic("no label: " + s)
	}
	return a
}

// line is an item of content, and bare one that is Bare; anchor is an anchor.
func line(a, s string) api.Item {
	return api.Item{Label: of(a), Line: api.Line{Text: s}}
}

func bare(a, s string) api.Item {
	return api.Item{Label: of(a), Line: api.Line{Text: s, Bare: true}}
}

func anchor(a string) api.Item {
	return api.Item{Label: of(a), Anchor: true}
}

// seen is a view of lines of which none is Bare, and ends one whose last line is.
func seen(at []int, texts ...string) api.View {
	v := api.View{At: at}
	for _, s := range texts {
		v.Lines = append(v.Lines, api.Line{Text: s})
	}
	return v
}

func ends(at []int, texts ...string) api.View {
	v := seen(at, texts...)
	v.Lines[len(v.Lines)-1].Bare = true
	return v
}

func same(v, w api.View) bool {
	return slices.Equal(v.Lines, w.Lines) && slices.Equal(v.At, w.At)
}

// observers are labels at which one asks; some don't lie below each other.
func observers() []api.Label {
	return []api.Label{of("0"), of("1"), of("0:0"), of("1:1"), of("1:0,1"), label.Top()}
}

// lists is all lists of up to n items of a few kinds, each of a few labels, with unlike IDs.
func lists(n int) [][]api.Item {
	var some []api.Item
	for _, a := range []string{"0", "1", "0:0", "1:1"} {
		some = append(some, line(a, "x"), bare(a, "y"), anchor(a))
	}
	all := [][]api.Item{nil}
	last := all
	for k := range n {
		var next [][]api.Item
		for _, l := range last {
			for _, one := range some {
				one.ID = 7 + 3*k
				next = append(next, append(slices.Clone(l), one))
			}
		}
		all = append(all, next...)
		last = next
	}
	return all
}

// P5.1: Of.
func TestOf(t *testing.T) {
	const hidden = "[ not for you ]"
	for _, c := range []struct {
		what string
		o    string
		l    []api.Item
		want api.View
	}{
		{"nothing", "0", nil, api.View{}},
		{"the document's", "0", []api.Item{line("0", "a"), line("1", "b"), anchor("0")}, seen([]int{0, 2}, "a", hidden)},
		{"all", "1", []api.Item{line("0", "a"), line("1", "b"), anchor("0")}, seen([]int{0, 1, 2}, "a", "b", hidden)},
		{"nothing that is read", "0", []api.Item{line("1", "a"), anchor("0:0"), bare("2", "b")}, api.View{}},
		{"a lower level", "2", []api.Item{line("3", "a"), line("1", "b"), line("2", "c")}, seen([]int{1, 2}, "b", "c")},
		{"categories", "2:0,1", []api.Item{line("2:0", "a"), line("0:2", "b"), line("1:0,1", "c"), line("2:0,1,2", "d"), line("0", "e")}, seen([]int{0, 2, 4}, "a", "c", "e")},
		{"categories that one lacks", "15", []api.Item{line("0:0", "a"), line("0:63", "b"), line("15", "c")}, seen([]int{2}, "c")},
		{"an anchor that is not read", "0", []api.Item{anchor("1"), line("0", "a")}, seen([]int{1}, "a")},
		{"alike lines", "0", []api.Item{line("0", "a"), line("0", "a"), line("1", "a"), line("0", "a")}, seen([]int{0, 1, 3}, "a", "a", "a")},
		{"empty lines", "0", []api.Item{line("0", ""), line("1", ""), line("0", "")}, seen([]int{0, 2}, "", "")},
		{"Bare at the end", "0", []api.Item{line("0", "a"), bare("0", "b")}, ends([]int{0, 1}, "a", "b")},
		{"Bare alone", "0", []api.Item{bare("0", "a")}, ends([]int{0}, "a")},
		{"Bare within", "0", []api.Item{bare("0", "a"), bare("0", "b"), line("0", "c")}, seen([]int{0, 1, 2}, "a", "b", "c")},
		{"Bare within and at the end", "0", []api.Item{bare("0", "a"), line("0", "b"), bare("0", "c")}, ends([]int{0, 1, 2}, "a", "b", "c")},
		{"Bare ahead of what is not read", "0", []api.Item{line("0", "a"), bare("0", "b"), line("1", "c")}, ends([]int{0, 1}, "a", "b")},
		{"Bare, but not read", "0", []api.Item{line("0", "a"), bare("1", "b")}, seen([]int{0}, "a")},
		{"Bare ahead of an anchor", "0", []api.Item{bare("0", "a"), anchor("0")}, seen([]int{0, 1}, "a", hidden)},
		{"Bare behind an anchor", "0", []api.Item{anchor("0"), bare("0", "a")}, ends([]int{0, 1}, hidden, "a")},
		{"Bare ahead of an anchor that is not read", "0", []api.Item{bare("0", "a"), anchor("1")}, ends([]int{0}, "a")},
	} {
		if got := view.Of(c.l, of(c.o), hidden); !same(got, c.want) {
			t.Errorf("%s: %v", c.what, got)
		}
	}
}

// P5.1: what stands for an anchor is told by whom asks.
func TestOfHidden(t *testing.T) {
	l := []api.Item{anchor("0"), line("0", "a"), anchor("0")}
	l[2].Line.Text = "no matter" // No call makes such an anchor; its Text is not told, either.
	for _, hidden := range []string{"", " ", "a", "@@ anchor", "\n", "x\ny", "\x00\xff"} {
		if got := view.Of(l, of("0"), hidden); !same(got, seen([]int{0, 1, 2}, hidden, "a", hidden)) {
			t.Errorf("%q: %v", hidden, got)
		}
	}
}

// P5.1, P1: items and labels that no call made.
func TestOfWrongItems(t *testing.T) {
	wild := []api.Item{
		{ID: -1, Label: api.Label{Level: -1}, Line: api.Line{Text: "a\nb", Bare: true}},
		{ID: -1, Label: api.Label{Level: math.MinInt}},
		{Label: api.Label{Level: 16, Cats: 1 << 63}, Line: api.Line{Text: "c"}},
		{ID: math.MaxInt, Label: api.Label{Level: math.MaxInt}, Line: api.Line{Text: "d"}},
		{Label: api.Label{Level: -1}, Anchor: true, Line: api.Line{Text: "no matter", Bare: true}},
	}
	for _, c := range []struct {
		o    api.Label
		want api.View
	}{
		{api.Label{}, ends([]int{0, 1, 4}, "a\nb", "", "h")},
		{api.Label{Level: -1}, ends([]int{0, 1, 4}, "a\nb", "", "h")},
		{api.Label{Level: -2}, seen([]int{1}, "")},
		{api.Label{Level: math.MinInt}, seen([]int{1}, "")},
		{api.Label{Level: 16}, ends([]int{0, 1, 4}, "a\nb", "", "h")},
		{api.Label{Level: 16, Cats: 1 << 63}, ends([]int{0, 1, 2, 4}, "a\nb", "", "c", "h")},
		{api.Label{Level: math.MaxInt, Cats: math.MaxUint64}, ends([]int{0, 1, 2, 3, 4}, "a\nb", "", "c", "d", "h")},
	} {
		if got := view.Of(wild, c.o, "h"); !same(got, c.want) {
			t.Errorf("at %v: %v", c.o, got)
		}
	}
	empty := []api.Item{{Line: api.Line{Bare: true}}}
	if got := view.Of(empty, of("0"), "h"); !same(got, ends([]int{0}, "")) {
		t.Errorf("empty and Bare: %v", got)
	}
}

// P5.1: Of and Cut of all lists, item by item.
func TestOfAll(t *testing.T) {
	for _, l := range lists(3) {
		for _, o := range observers() {
			checkOf(t, l, o, "h")
		}
	}
}

// checkOf is P5.1, told item by item.
func checkOf(t *testing.T, l []api.Item, o api.Label, hidden string) {
	t.Helper()
	var want api.View
	var cut []api.Item
	for at, one := range l {
		if !label.Below(one.Label, o) {
			continue
		}
		for i := range want.Lines {
			want.Lines[i].Bare = false
		}
		s := one.Line.Text
		if one.Anchor {
			s = hidden
		}
		want.Lines = append(want.Lines, api.Line{Text: s, Bare: one.Line.Bare})
		want.At = append(want.At, at)
		cut = append(cut, one)
	}
	if got := view.Of(l, o, hidden); !same(got, want) {
		t.Errorf("Of(%v, %v, %q) = %v", l, o, hidden, got)
	}
	if got := view.Cut(l, o); !slices.Equal(got, cut) {
		t.Errorf("Cut(%v, %v) = %v", l, o, got)
	}
}

// P5.1: Cut.
func TestCut(t *testing.T) {
	a, b, c := line("0", "a"), line("1:0", "b"), bare("2", "c")
	d := anchor("1")
	a.ID, b.ID, c.ID, d.ID = 4, 3, -1, 3
	l := []api.Item{a, b, c, d, a}
	for _, one := range []struct {
		o    string
		want []api.Item
	}{
		{"0", []api.Item{a, a}}, {"1", []api.Item{a, d, a}}, {"1:0", []api.Item{a, b, d, a}}, {"0:0", []api.Item{a, a}}, {"2", []api.Item{a, c, d, a}}, {"2:0", l}, {"15:0,63", l},
	} {
		if got := view.Cut(l, of(one.o)); !slices.Equal(got, one.want) {
			t.Errorf("at %s: %v", one.o, got)
		}
	}
	if got := view.Cut(nil, label.Top()); len(got) != 0 {
		t.Errorf("of nothing: %v", got)
	}
	if got := view.Cut(l, api.Label{Level: -1}); len(got) != 0 {
		t.Errorf("below all: %v", got)
	}
}

// P5.1: Text.
func TestText(t *testing.T) {
	for _, c := range []struct {
		v    api.View
		want string
	}{
		{api.View{}, ""},
		{api.View{At: []int{0, 1}}, ""},
		{seen([]int{0}, ""), "\n"},
		{seen([]int{0, 2}, "a", "b"), "a\nb\n"},
		{ends([]int{0, 2}, "a", "b"), "a\nb"},
		{seen(nil, "a", "b"), "a\nb\n"},
		{ends([]int{-1}, ""), ""},
		{api.View{Lines: []api.Line{{Text: "a", Bare: true}, {Text: "b\nc"}}}, "a\nb\nc\n"},
	} {
		if got := view.Text(c.v); string(got) != c.want {
			t.Errorf("Text(%v) = %q", c.v, got)
		}
	}
	l := []api.Item{line("0", "a"), line("1", "b"), anchor("0"), bare("0", "c")}
	if got := view.Text(view.Of(l, of("0"), "##")); string(got) != "a\n##\nc" {
		t.Errorf("of what is seen: %q", got)
	}
}

// P5.2: Find.
func TestFind(t *testing.T) {
	v := api.View{At: []int{2, 5, 5, -1, 3, math.MaxInt, 2, math.MinInt, 0}}
	for _, c := range []struct {
		at, want int
	}{
		{2, 0}, {5, 1}, {-1, 3}, {3, 4}, {math.MaxInt, 5}, {math.MinInt, 7}, {0, 8},
	} {
		if i, is := view.Find(v, c.at); !is || i != c.want {
			t.Errorf("Find of %d: %d, %v", c.at, i, is)
		}
	}
	for _, at := range []int{1, 4, 6, -2, math.MaxInt - 1, math.MinInt + 1} {
		if i, is := view.Find(v, at); is || i != 0 {
			t.Errorf("Find of %d: %d, %v", at, i, is)
		}
	}
	for _, none := range []api.View{{}, {At: []int{}}, {Lines: []api.Line{{Text: "a"}}}} {
		if i, is := view.Find(none, 0); is || i != 0 {
			t.Errorf("Find of 0 in %v: %d, %v", none, i, is)
		}
	}
}

// P5.2, P2, P5: After.
func TestAfter(t *testing.T) {
	places := []int{0, 7, 3, -1, math.MinInt, api.MaxItems - 1, api.MaxItems, math.MaxInt, 5}
	v := api.View{At: places}
	for _, c := range []struct {
		i, want int
		e       api.Errno
	}{
		{0, 0, api.OK}, {1, 1, api.OK}, {2, 8, api.OK}, {3, 4, api.OK}, {4, 0, api.ErrArg}, {5, 0, api.ErrArg}, {6, api.MaxItems, api.OK}, {7, 0, api.ErrArg}, {8, 0, api.ErrArg},
		{9, 6, api.OK}, {10, 0, api.ErrArg}, {-1, 0, api.ErrArg}, {math.MinInt, 0, api.ErrArg}, {math.MaxInt, 0, api.ErrArg},
	} {
		if at, e := view.After(v, c.i); at != c.want || e != c.e {
			t.Errorf("After of %d: %d, %d", c.i, at, e)
		}
	}
	for _, first := range []int{-1, api.MaxItems, math.MinInt} {
		if at, e := view.After(api.View{At: []int{first}}, 0); at != 0 || e != api.OK {
			t.Errorf("ahead of a line at %d: %d, %d", first, at, e)
		}
	}
}

// P5.2: After goes by the places, not by the lines.
func TestAfterWithoutLines(t *testing.T) {
	v := api.View{Lines: []api.Line{{Text: "a"}, {Text: "b"}}}
	if at, e := view.After(v, 0); at != 0 || e != api.OK {
		t.Errorf("of 0: %d, %d", at, e)
	}
	if at, e := view.After(v, 1); at != 0 || e != api.ErrArg {
		t.Errorf("of 1: %d, %d", at, e)
	}
	v.At = []int{4, 5, 6}
	if at, e := view.After(v, 3); at != 7 || e != api.OK {
		t.Errorf("of 3: %d, %d", at, e)
	}
}

// P5.2: IDs.
func TestIDs(t *testing.T) {
	l := []api.Item{{ID: 5}, {ID: 3}, {ID: -8}, {ID: 3, Anchor: true}, {ID: math.MaxInt}}
	for _, c := range []struct {
		at, want []int
	}{
		{nil, nil},
		{[]int{0, 1, 2, 3, 4}, []int{5, 3, -8, 3, math.MaxInt}},
		{[]int{1, 4}, []int{3, math.MaxInt}},
		{[]int{4, 0, 0}, []int{math.MaxInt, 5, 5}},
		{[]int{-1, 1, 5, 2, math.MinInt, math.MaxInt}, []int{0, 3, 0, -8, 0, 0}},
	} {
		if got := view.IDs(l, api.View{At: c.at}); !slices.Equal(got, c.want) {
			t.Errorf("IDs at %v: %v", c.at, got)
		}
	}
	if got := view.IDs(l, seen([]int{4}, "a", "b")); !slices.Equal(got, []int{math.MaxInt}) {
		t.Errorf("IDs go by the places: %v", got)
	}
	if got := view.IDs(nil, api.View{At: []int{0, 1, -1}}); !slices.Equal(got, []int{0, 0, 0}) {
		t.Errorf("IDs of nothing: %v", got)
	}
}

// P5.1, P5.2: places of what is seen are found, and IDs are those of the items that are cut out.
func TestFindAll(t *testing.T) {
	for _, l := range lists(3) {
		for _, o := range observers() {
			v := view.Of(l, o, "h")
			for at := range l {
				i, is := view.Find(v, at)
				if is != label.Below(l[at].Label, o) || is && v.At[i] != at || !is && i != 0 {
					t.Errorf("%v at %v: place %d: %d, %v", l, o, at, i, is)
				}
			}
			var ids []int
			for _, one := range view.Cut(l, o) {
				ids = append(ids, one.ID)
			}
			if got := view.IDs(l, v); !slices.Equal(got, ids) {
				t.Errorf("%v at %v: IDs %v", l, o, got)
			}
		}
	}
}

// P5.3: what one may not read plays no part: it may be cut out, be another, or more.
func TestHiddenPlaysNoPart(t *testing.T) {
	for _, l := range lists(3) {
		for _, o := range observers() {
			v, cut := view.Of(l, o, "h"), view.Cut(l, o)
			if got := view.Of(cut, o, "h"); !slices.Equal(got.Lines, v.Lines) || len(got.At) != len(v.At) {
				t.Errorf("%v at %v: %v, of Cut %v", l, o, v, got)
			}
			if again := view.Cut(cut, o); !slices.Equal(again, cut) {
				t.Errorf("%v at %v: Cut of Cut is %v", l, o, again)
			}
			more := amongHidden(l, o)
			if got := view.Of(more, o, "h"); !slices.Equal(got.Lines, v.Lines) {
				t.Errorf("%v at %v: %v, but %v among %v", l, o, v, got, more)
			}
			if got := view.Cut(more, o); !slices.Equal(got, cut) {
				t.Errorf("%v at %v: Cut of %v is %v", l, o, more, got)
			}
		}
	}
}

// amongHidden is what is left of items, among others that are not read there.
func amongHidden(l []api.Item, o api.Label) []api.Item {
	above := api.Label{Level: o.Level + 1, Cats: o.Cats}
	all := []api.Item{{ID: 99, Label: above, Line: api.Line{Text: "z", Bare: true}}}
	for _, one := range view.Cut(l, o) {
		all = append(all, one, api.Item{ID: 98, Label: above, Anchor: true}, api.Item{Label: above, Line: api.Line{Text: "x", Bare: true}})
	}
	return all
}

// P5.4: who reads more sees all that one who reads less sees, in the same order.
func TestMoreSeesAll(t *testing.T) {
	for _, l := range lists(3) {
		for _, o := range observers() {
			for _, p := range observers() {
				if label.Below(o, p) {
					checkWithin(t, view.Of(l, o, "h"), view.Of(l, p, "h"))
				}
			}
		}
	}
}

func checkWithin(t *testing.T, less, more api.View) {
	t.Helper()
	last := -1
	for k, at := range less.At {
		i, is := view.Find(more, at)
		if !is || i <= last || more.Lines[i].Text != less.Lines[k].Text {
			t.Errorf("%v, but who reads more sees %v", less, more)
		}
		last = i
	}
}

// P5.5: an item that is put in at After stands just ahead of the line, and all others as they did.
func TestPutInAfter(t *testing.T) {
	for _, l := range lists(3) {
		for _, o := range observers() {
			v := view.Of(l, o, "h")
			for i := range len(v.At) + 1 {
				at, e := view.After(v, i)
				if e != api.OK || at < 0 || at > len(l) {
					t.Fatalf("%v at %v: After of %d: %d, %d", l, o, i, at, e)
				}
				put := api.Item{ID: 1, Label: o, Line: api.Line{Text: "new"}}
				checkPutIn(t, v, i, view.Of(slices.Insert(slices.Clone(l), at, put), o, "h"))
			}
		}
	}
}

func checkPutIn(t *testing.T, v api.View, i int, got api.View) {
	t.Helper()
	want := slices.Clone(v.Lines)
	if i == len(want) && i > 0 {
		want[i-1].Bare = false // It is the last one no longer.
	}
	want = slices.Insert(want, i, api.Line{Text: "new"})
	if !slices.Equal(got.Lines, want) {
		t.Errorf("put in ahead of %d of %v: %v", i, v, got)
	}
}

// P5.2: hidden items behind a line stay behind what is put in there; ahead of all nothing stands.
func TestAfterIsCloseBehind(t *testing.T) {
	l := []api.Item{line("1", "h"), line("0", "a"), line("1", "h"), line("1", "h"), line("0", "b"), line("1", "h")}
	v := view.Of(l, of("0"), "")
	for i, want := range []int{0, 2, 5} {
		if at, e := view.After(v, i); at != want || e != api.OK {
			t.Errorf("After of %d: %d, %d", i, at, e)
		}
	}
}

// P3: what is handed in stays as it is, spare room too.
func TestArgumentsStay(t *testing.T) {
	l := []api.Item{line("0", "a"), line("1", "b"), anchor("0"), bare("0", "c"), line("0", "spare"), bare("1", "room")}
	items := slices.Clone(l)
	v := view.Of(l, of("1"), "h")
	w := api.View{Lines: v.Lines[:2], At: v.At[:2]}
	lines, at := slices.Clone(v.Lines), slices.Clone(v.At)
	for _, o := range observers() {
		view.Of(l[:4], o, "h")
		view.Cut(l[:4], o)
	}
	view.Text(w)
	view.Find(w, 1)
	view.After(w, 2)
	view.IDs(l[:4], w)
	if !slices.Equal(l, items) || !slices.Equal(v.Lines, lines) || !slices.Equal(v.At, at) {
		t.Errorf("left: %v, %v", l, v)
	}
}

// P3, P6: what is answered is new memory, and what is handed in is not kept.
func TestAnswersAreNew(t *testing.T) {
	l := []api.Item{line("0", "a"), line("0", "b")}
	l[0].ID, l[1].ID = 1, 2
	was, whole := slices.Clone(l), seen([]int{0, 1}, "a", "b")
	v, cut := view.Of(l, of("0"), "h"), view.Cut(l, of("0"))
	ids, b := view.IDs(l, v), view.Text(v)
	w, again := view.Of(l, of("0"), "h"), view.Cut(l, of("0"))
	v.Lines[0].Text, v.At[0], cut[0].ID, ids[0], b[0] = "z", 9, 9, 9, 'z'
	if !slices.Equal(l, was) || !same(w, whole) || !slices.Equal(again, was) || string(view.Text(w)) != "a\nb\n" {
		t.Errorf("shared: %v, %v, %v", l, w, again)
	}
	if got := view.IDs(l, w); !slices.Equal(got, []int{1, 2}) || !slices.Equal(w.At, []int{0, 1}) {
		t.Errorf("shared IDs: %v, %v", got, w)
	}
	l[0], l[1] = anchor("1"), anchor("1")
	if !same(w, whole) || !slices.Equal(again, was) {
		t.Errorf("kept: %v, %v", w, again)
	}
}

// P1, P2, P5.1 to P5.3: whatever is handed in is answered, twice the same.
func FuzzView(f *testing.F) {
	f.Add([]byte("\x00a\x13b\x25c\xff"), 1, uint64(3), "h", 2)
	f.Add([]byte("@@ anchor\n"), math.MinInt, uint64(math.MaxUint64), "", math.MaxInt)
	f.Add([]byte{}, math.MaxInt, uint64(1), "\n", -1)
	f.Fuzz(func(t *testing.T, b []byte, level int, cats uint64, hidden string, k int) {
		o := api.Label{Level: level, Cats: cats}
		var l []api.Item
		var wild api.View
		for i, c := range b {
			one := api.Item{ID: k - i, Label: api.Label{Level: int(c%18) - 1, Cats: cats >> (c % 64)}, Anchor: c%3 == 0}
			one.Line = api.Line{Text: strconv.Itoa(int(c)), Bare: c%5 == 0}
			l = append(l, one)
			wild.At = append(wild.At, int(c)*k)
		}
		was, places := slices.Clone(l), slices.Clone(wild.At)
		checkOf(t, l, o, hidden)
		v := view.Of(l, o, hidden)
		if w := view.Of(view.Cut(l, o), o, hidden); !slices.Equal(w.Lines, v.Lines) || !bytes.Equal(view.Text(w), view.Text(v)) {
			t.Errorf("%v at %v: %v, of Cut %v", l, o, v, w)
		}
		checkPlaces(t, l, wild, k)
		if !slices.Equal(l, was) || !slices.Equal(wild.At, places) {
			t.Errorf("left: %v, %v", l, wild)
		}
	})
}

// checkPlaces is P5.2, of a view that no call made.
func checkPlaces(t *testing.T, l []api.Item, v api.View, k int) {
	t.Helper()
	if i, is := view.Find(v, k); is != slices.Contains(v.At, k) || is && (v.At[i] != k || slices.Contains(v.At[:i], k)) || !is && i != 0 {
		t.Errorf("Find of %d in %v: %d, %v", k, v.At, i, is)
	}
	at, e := view.After(v, k)
	may := k == 0 || k > 0 && k <= len(v.At) && v.At[k-1] >= 0 && v.At[k-1] < api.MaxItems
	if may != (e == api.OK) || !may && (e != api.ErrArg || at != 0) || may && k > 0 && at != v.At[k-1]+1 || k == 0 && at != 0 {
		t.Errorf("After of %d in %v: %d, %d", k, v.At, at, e)
	}
	ids := view.IDs(l, v)
	if len(ids) != len(v.At) {
		t.Fatalf("IDs at %v: %v", v.At, ids)
	}
	for i, at := range v.At {
		want := 0
		if at >= 0 && at < len(l) {
			want = l[at].ID
		}
		if ids[i] != want {
			t.Errorf("IDs at %v: %v", v.At, ids)
		}
	}
}
