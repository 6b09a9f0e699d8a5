package lift_test

import (
	"math"
	"slices"
	"strings"
	"testing"

	"jalousie/api"
	"jalousie/label"
	"jalousie/lift"
	"jalousie/view"
)

const hidden = "##"

// of is a label by its text.
func of(s string) api.Label {
	a, is := label.Parse(s)
	if !is {
		panic("no label: " + s)
	}
	return a
}

// line is an item whose ID is that of its text's first letter: 1 for a, 2 for b, ...; anchor is an anchor.
func line(a, s string) api.Item {
	return api.Item{ID: int(s[0]-'a') + 1, Label: of(a), Line: api.Line{Text: s}}
}

func anchor(id int, a string) api.Item {
	return api.Item{ID: id, Label: of(a), Anchor: true}
}

// row is items, told as letters with their labels behind: a0 b1 is a at 0, b at 1; @ is an anchor of the ID 27.
func row(s string) []api.Item {
	var l []api.Item
	for _, word := range strings.Fields(s) {
		if word[0] == '@' {
			l = append(l, anchor(27, word[1:]))
			continue
		}
		l = append(l, line(word[1:], word[:1]))
	}
	return l
}

// old is the view's line i, and fresh a new line.
func old(i int) api.Made {
	return api.Made{Old: true, At: i}
}

func fresh(s string) api.Made {
	return api.Made{Line: api.Line{Text: s}}
}

// made is told as a row of digits, a line of the view each, and of letters, a new line each.
func made(s string) []api.Made {
	var l []api.Made
	for _, c := range s {
		if c >= '0' && c <= '9' {
			l = append(l, old(int(c-'0')))
			continue
		}
		l = append(l, fresh(string(c)))
	}
	return l
}

// told is items as the row of their texts; an anchor is @.
func told(l []api.Item) string {
	s := ""
	for _, one := range l {
		if one.Anchor {
			s += "@"
		}
		s += one.Line.Text
	}
	return s
}

// P18.2: Lift, where it is told by hand. New lines have capital letters.
func TestLift(t *testing.T) {
	for _, c := range []struct {
		l, o, s, made string
		want          string
	}{
		{"", "0", "0", "", ""},
		{"", "0", "0", "XYZ", "XYZ"},
		{"a1 b1", "0", "0", "XY", "XYab"},
		{"a0 h1 b0", "0", "0", "0X1", "aXhb"}, // The document's example.
		{"a0 h1 b0", "0", "0", "01X", "ahbX"},
		{"a0 h1 b0", "0", "0", "X01", "Xahb"},
		{"h1 a0 i1", "0", "0", "X0", "Xhai"},
		{"h1 a0 i1", "0", "0", "0X", "haXi"},
		{"h1 a0 i1", "0", "0", "WX0YZ", "WXhaYZi"},
		{"h1 a0 i1", "0", "0", "", "hi"},
		{"h1 a0 i1", "0", "0", "X", "Xhi"},
		{"a0 b0 c0", "0", "0", "012", "abc"},
		{"a0 b0 c0", "0", "0", "02", "ac"},
		{"a0 b0 c0", "0", "0", "1", "b"},
		{"a0 b0 c0", "0", "0", "", ""},
		{"a0 b0 c0", "0", "0", "X1Y", "XbY"},
		{"a0 b0 c0", "0", "0", "VW0X1Y2Z", "VWaXbYcZ"},
		// What is put in stands just behind the line ahead, not just ahead of the line behind.
		{"a0 h1 b0 i1 c0", "0", "0", "0X2", "aXhic"},
		{"a0 h1 b0 i1 c0", "0", "0", "0XY1Z", "aXYhbZi"},
		{"h1 a0 i1 b0 j1", "0", "0", "X1", "Xhibj"},
		{"h1 a0 i1 b0 j1", "0", "0", "0X", "haXij"},
		{"h1 a0 i1 b0 j1 c0", "0", "0", "X2Y", "XhijcY"},
		// Lines of other labels that one sees stay; so do anchors.
		{"a0 b1 c2 d1 @0 e1", "1", "1", "0X3", "aXc@"},
		{"a0 b1 c2 d1 @0 e1", "1", "1", "0123X", "abcd@X"},
		{"@1 b1", "1", "1", "0X", "@X"},
		{"a1:0 b1:1 c1 d1:0,1", "1:0", "1:0", "X1", "Xbcd"},
		{"a1:0 b1:1 c1 d1:0,1", "1:0,1", "1:0,1", "0X12", "aXbc"},
		// One may put in at a label below that of the view.
		{"a0 b1 c2 d1 e0", "1", "0", "0X12Y", "aXbcdY"},
	} {
		l := row(c.l)
		v := view.Of(l, of(c.o), hidden)
		m := made(c.made)
		n := strings.Count(c.made, "") - 1
		for _, one := range m {
			if one.Old {
				n--
			}
		}
		got, next, e := lift.Lift(l, v, of(c.s), m, 100)
		if e != api.OK || told(got) != c.want || next != 100+n {
			t.Errorf("%s at %s, made %s: %s, %d, %d; not %s", c.l, c.o, c.made, told(got), next, e, c.want)
		}
		compare(t, l, v, of(c.s), m, 100)
	}
}

// P18.2: a new item has the label s, its whole Line, and the next ID; the other ones have all that they had.
func TestNewItems(t *testing.T) {
	one := api.Item{ID: 5, Label: of("3:7"), Line: api.Line{Text: "x", Bare: true}}
	two := api.Item{ID: 5, Label: of("0"), Line: api.Line{Text: "y", Bare: true}}
	three := api.Item{ID: -9, Label: of("15:63"), Anchor: true}
	l := []api.Item{one, two, three}
	v := api.View{At: []int{0, 2}}
	s := of("2:1,5")
	m := []api.Made{{Line: api.Line{Text: "\n", Bare: true}}, old(0), {Line: api.Line{Bare: true}}, {}, old(1), fresh(strings.Repeat("z", 300))}
	want := []api.Item{
		{ID: 41, Label: s, Line: api.Line{Text: "\n", Bare: true}},
		one,
		{ID: 42, Label: s, Line: api.Line{Bare: true}},
		{ID: 43, Label: s},
		two,
		three,
		{ID: 44, Label: s, Line: api.Line{Text: strings.Repeat("z", 300)}},
	}
	if got, next, e := lift.Lift(l, v, s, m, 41); e != api.OK || next != 45 || !slices.Equal(got, want) {
		t.Errorf("%v, %d, %d", got, next, e)
	}
}

// P18.2: which numbers the next ID may be.
func TestNext(t *testing.T) {
	l := row("a0 b0")
	v := view.Of(l, of("0"), hidden)
	for _, c := range []struct {
		made string
		next int
		want api.Errno
	}{
		{"01", 1, api.OK},
		{"01", 2, api.OK}, // Whether an item has it plays no part.
		{"01", api.MaxNum, api.OK},
		{"", api.MaxNum, api.OK},
		{"01", api.MaxNum + 1, api.ErrArg},
		{"01", 0, api.ErrArg},
		{"01", -1, api.ErrArg},
		{"0X", 1, api.OK},
		{"0X", api.MaxNum - 1, api.OK},
		{"0X", api.MaxNum, api.ErrArg},
		{"0X", 0, api.ErrArg},
		{"X0YZ", api.MaxNum - 3, api.OK},
		{"X0YZ", api.MaxNum - 2, api.ErrArg},
		{"X0YZ", math.MaxInt, api.ErrArg},
		{"X0YZ", math.MaxInt - 2, api.ErrArg},
		{"X0YZ", math.MinInt, api.ErrArg},
		{"X0YZ", -3, api.ErrArg},
	} {
		m := made(c.made)
		got, next, e := lift.Lift(l, v, of("0"), m, c.next)
		if e != c.want || e != api.OK && (len(got) > 0 || next != 0) {
			t.Errorf("made %s, next %d: %v, %d, %d", c.made, c.next, got, next, e)
		}
		compare(t, l, v, of("0"), m, c.next)
	}
}

// at is a view of these places, without any line: they alone play a part.
func at(places ...int) api.View {
	return api.View{At: places}
}

// wrong is what may not be made of a view: of the items a0 h1 b0 @0 c1 d0, at 0.
func wrong() []struct {
	what string
	v    api.View
	made []api.Made
	want api.Errno
} {
	seen := at(0, 2, 3, 5)
	all := made("0123")
	with := func(change func(m []api.Made)) []api.Made {
		m := made("012X3")
		change(m)
		return m
	}
	return []struct {
		what string
		v    api.View
		made []api.Made
		want api.Errno
	}{
		{"a place twice", at(0, 2, 2, 5), all, api.ErrForm},
		{"places that fall", at(0, 3, 2, 5), all, api.ErrForm},
		{"the first place twice", at(0, 0, 2, 5), all, api.ErrForm},
		{"a place below 0", at(-1, 2, 3, 5), all, api.ErrForm},
		{"a place far below 0", at(math.MinInt, 2, 3, 5), all, api.ErrForm},
		{"a place behind all", at(0, 2, 3, 6), all, api.ErrForm},
		{"a place far behind all", at(0, 2, 3, math.MaxInt), all, api.ErrForm},
		{"a place behind all, that is not made", at(0, 2, 3, 6), made("012"), api.ErrForm},
		{"one place below 0, and nothing made", at(-1), nil, api.ErrForm},
		{"one place behind all, and nothing made", at(6), nil, api.ErrForm},
		{"a line twice", seen, made("0112"), api.ErrArg},
		{"lines that fall", seen, made("0213"), api.ErrArg},
		{"the first line at the end", seen, made("1230"), api.ErrArg},
		{"the same with a new line between", seen, made("01X12"), api.ErrArg},
		{"a line behind all", seen, made("01234"), api.ErrArg},
		{"a line behind all, alone", seen, made("4"), api.ErrArg},
		{"a place among all items", seen, made("0125"), api.ErrArg},
		{"a line below 0", seen, append([]api.Made{old(-1)}, all...), api.ErrArg},
		{"a line far below 0", seen, []api.Made{old(math.MinInt)}, api.ErrArg},
		{"a line far behind all", seen, []api.Made{old(math.MaxInt)}, api.ErrArg},
		{"a line of no view", api.View{}, made("0"), api.ErrArg},
		{"a line of lines without places", api.View{Lines: make([]api.Line, 4)}, made("0"), api.ErrArg},
		{"a new line with a place", seen, with(func(m []api.Made) { m[3].At = 3 }), api.ErrArg},
		{"a new line with a place below 0", seen, with(func(m []api.Made) { m[3].At = -1 }), api.ErrArg},
		{"a new line with a place far behind all", seen, with(func(m []api.Made) { m[3].At = math.MaxInt }), api.ErrArg},
		{"an old line with a text", seen, with(func(m []api.Made) { m[1].Line.Text = "b" }), api.ErrArg},
		{"an old line that is Bare", seen, with(func(m []api.Made) { m[4].Line.Bare = true }), api.ErrArg},
		{"the first line with a text", seen, with(func(m []api.Made) { m[0].Line.Text = "a" }), api.ErrArg},
		{"an anchor is taken out", seen, made("013"), api.ErrRight},
		{"all is taken out", seen, nil, api.ErrRight},
		{"an anchor is taken out for a new line", seen, made("01X3"), api.ErrRight},
		{"a line of a greater label is taken out", at(0, 2, 4), made("01"), api.ErrRight},
		{"it alone", at(4), nil, api.ErrRight},
		// What is named first counts, wherever it stands.
		{"a place twice, and a line twice", at(0, 2, 2, 5), made("00"), api.ErrForm},
		{"the last place behind all, and no line", at(0, 2, 3, 6), []api.Made{old(-1), {At: 1}}, api.ErrForm},
		{"an anchor is taken out, and a line is behind all", seen, made("014"), api.ErrArg},
		{"all is taken out, and a new line has a place", seen, []api.Made{{At: 1}}, api.ErrArg},
	}
}

// P18.1, P18.2, P2: what Check refuses; Lift answers the same, and nothing.
func TestErrors(t *testing.T) {
	l := row("a0 h1 b0 @0 c1 d0")
	for _, c := range wrong() {
		if e := lift.Check(l, c.v, of("0"), c.made); e != c.want {
			t.Errorf("%s: Check says %d, not %d", c.what, e, c.want)
		}
		// What is wrong with the number counts behind that.
		for _, n := range []int{1, 0, api.MaxNum, math.MaxInt} {
			if got, next, e := lift.Lift(l, c.v, of("0"), c.made, n); e != c.want || len(got) > 0 || next != 0 {
				t.Errorf("%s: %v, %d, %d, not %d", c.what, got, next, e, c.want)
			}
		}
		compare(t, l, c.v, of("0"), c.made, 7)
	}
	for _, c := range []struct {
		v    api.View
		made []api.Made
	}{
		{at(0, 2, 3, 5), made("0123")}, {at(0, 2, 3, 5), made("2")}, {at(0, 2, 5), nil}, {at(), nil}, {at(), made("XYZ")}, {at(1, 4), made("01")}, {at(0, 1, 2, 3, 4, 5), made("X1Y3Z4W")},
		{api.View{At: []int{5}, Lines: []api.Line{{Text: "another"}, {Text: "one"}}}, made("X")},
	} {
		if e := lift.Check(l, c.v, of("0"), c.made); e != api.OK {
			t.Errorf("%v, made %v: %d", c.v, c.made, e)
		}
		compare(t, l, c.v, of("0"), c.made, 7)
	}
}

// P18.1: a line may be taken out just if its label is s, whatever lies below what.
func TestRight(t *testing.T) {
	labels := []api.Label{of("0"), of("1"), of("1:0"), of("1:1"), of("1:0,1"), of("15:0,63"), {Level: -1}, {Level: 16}, {Level: math.MaxInt, Cats: math.MaxUint64}}
	for _, a := range labels {
		for _, s := range labels {
			for _, is := range []bool{false, true} {
				want := api.OK
				if is || a != s {
					want = api.ErrRight
				}
				l := []api.Item{{ID: 1, Label: a, Anchor: is}}
				if e := lift.Check(l, at(0), s, nil); e != want {
					t.Errorf("%v at %v, anchor %v: %d", a, s, is, e)
				}
				if e := lift.Check(l, at(0), s, made("0X")); e != api.OK {
					t.Errorf("%v at %v, anchor %v, stays: %d", a, s, is, e)
				}
				compare(t, l, at(0), s, made("X"), 1)
				compare(t, l, at(0), s, made("X0Y"), 1)
				compare(t, l, at(), s, made("X"), 1)
			}
		}
	}
}

// fault is Check as the document tells it.
func fault(l []api.Item, v api.View, s api.Label, made []api.Made) api.Errno {
	for i, place := range v.At {
		if place < 0 || place > len(l)-1 || i > 0 && place <= v.At[i-1] {
			return api.ErrForm
		}
	}
	is := map[int]bool{}
	for k, m := range made {
		if !m.Old {
			if m.At != 0 {
				return api.ErrArg
			}
			continue
		}
		if m.At < 0 || m.At > len(v.At)-1 || m.Line.Text != "" || m.Line.Bare {
			return api.ErrArg
		}
		for _, ahead := range made[:k] {
			if ahead.Old && ahead.At >= m.At {
				return api.ErrArg
			}
		}
		is[m.At] = true
	}
	for i, place := range v.At {
		if !is[i] && (l[place].Anchor || l[place].Label != s) {
			return api.ErrRight
		}
	}
	return api.OK
}

// walk is Lift as the document tells it, line by line, each put in among all that are there by then.
func walk(l []api.Item, v api.View, s api.Label, made []api.Made, next int) ([]api.Item, int) {
	type mark struct {
		one  api.Item
		from int // its place among all items, or how many lines are made ahead of it, less than 0
	}
	var all []mark
	for place, one := range l {
		i := slices.Index(v.At, place)
		if i < 0 || slices.Contains(made, old(i)) {
			all = append(all, mark{one, place})
		}
	}
	put := 0
	for k, m := range made {
		if m.Old {
			put = 1 + slices.IndexFunc(all, func(x mark) bool { return x.from == v.At[m.At] })
			continue
		}
		all = slices.Insert(all, put, mark{api.Item{ID: next, Label: s, Line: m.Line}, -1 - k})
		put, next = put+1, next+1
	}
	var items []api.Item
	for _, x := range all {
		items = append(items, x.one)
	}
	return items, next
}

// compare is P18.1 and P18.2, of anything.
func compare(t *testing.T, l []api.Item, v api.View, s api.Label, made []api.Made, next int) {
	t.Helper()
	want := fault(l, v, s, made)
	if e := lift.Check(l, v, s, made); e != want {
		t.Fatalf("Check(%v, %v, %v, %v) = %d, not %d", l, v.At, s, made, e, want)
	}
	n := 0
	for _, m := range made {
		if !m.Old {
			n++
		}
	}
	if want == api.OK && (next < 1 || next > api.MaxNum-n) {
		want = api.ErrArg
	}
	var items []api.Item
	last := 0
	if want == api.OK {
		items, last = walk(l, v, s, made, next)
	}
	got, n, e := lift.Lift(l, v, s, made, next)
	if e != want || n != last || !slices.Equal(got, items) {
		t.Fatalf("Lift(%v, %v, %v, %v, %d) = %v, %d, %d, not %v, %d, %d", l, v.At, s, made, next, got, n, e, items, last, want)
	}
}

// lists is all rows of up to n items, lines and anchors of a few labels, with IDs of their own.
func lists(n int) [][]api.Item {
	var some []api.Item
	for _, a := range []string{"0", "1", "0:0"} {
		some = append(some, line(a, "x"), api.Item{Label: of(a), Line: api.Line{Text: "y", Bare: true}})
	}
	some = append(some, anchor(0, "0"), anchor(0, "1"))
	all := [][]api.Item{nil}
	last := all
	for k := range n {
		var next [][]api.Item
		for _, l := range last {
			for _, one := range some {
				one.ID = k + 1
				next = append(next, append(slices.Clone(l), one))
			}
		}
		all = append(all, next...)
		last = next
	}
	return all
}

// every is all that can be made of n lines, with up to one new line, or two, at each place between.
func every(n, most int) [][]api.Made {
	all := [][]api.Made{nil}
	between := func() {
		for _, m := range slices.Clone(all) {
			for k := 1; k <= most; k++ {
				all = append(all, append(slices.Clone(m), slices.Repeat([]api.Made{{Line: api.Line{Text: "new", Bare: k > 1}}}, k)...))
			}
		}
	}
	between()
	for i := range n {
		for _, m := range slices.Clone(all) {
			all = append(all, append(slices.Clone(m), old(i)))
		}
		between()
	}
	return all
}

// P18.1 to P18.5: of all short lists, all that can be made of what is seen.
func TestAll(t *testing.T) {
	var kinds [4][][]api.Made
	for n := range kinds {
		kinds[n] = every(n, 1)
	}
	for _, l := range lists(3) {
		for _, o := range []string{"0", "1", "0:0", "1:0"} {
			v := view.Of(l, of(o), hidden)
			for _, m := range kinds[len(v.At)] {
				compare(t, l, v, of(o), m, 50)
				follow(t, l, v, of(o), m)
			}
		}
	}
}

// P18.1, P18.2: of views of any places, and of more than one new line at a place.
func TestAllPlaces(t *testing.T) {
	l := row("a0 b1 c0 @0")
	kinds := every(3, 2)
	for one := -1; one < 5; one++ {
		for two := -1; two < 5; two++ {
			for three := -1; three < 5; three++ {
				for _, m := range kinds {
					compare(t, l, at(one, two, three), of("0"), m, 50)
				}
			}
		}
	}
}

// follow is P18.3 to P18.5, of a view of the items at s.
func follow(t *testing.T, l []api.Item, v api.View, s api.Label, made []api.Made) {
	t.Helper()
	got, _, e := lift.Lift(l, v, s, made, 50)
	if e != api.OK {
		return
	}
	var lines []string
	untouched := len(made) == len(v.At)
	for i, m := range made {
		untouched = untouched && m.Old && m.At == i
		if m.Old {
			lines = append(lines, v.Lines[m.At].Text)
		} else {
			lines = append(lines, m.Line.Text)
		}
	}
	var seen []string
	for _, one := range view.Of(got, s, hidden).Lines {
		seen = append(seen, one.Text)
	}
	if !slices.Equal(seen, lines) {
		t.Fatalf("%v at %v, made %v: one sees %q, not %q", l, s, made, seen, lines)
	}
	if untouched && !slices.Equal(got, l) {
		t.Fatalf("%v at %v, made as it is: %v", l, s, got)
	}
	for _, o := range []string{"0", "1", "0:0", "0:1", "1:0", "15:63", "15:0,63"} {
		if !label.Below(s, of(o)) && !slices.Equal(view.Cut(got, of(o)), view.Cut(l, of(o))) {
			t.Fatalf("%v at %v, made %v: at %s there is %v", l, s, made, o, got)
		}
	}
	if !slices.Equal(others(got, s), others(l, s)) {
		t.Fatalf("%v at %v, made %v: others are left as %v", l, s, made, got)
	}
}

// others is the items that are not seen at s.
func others(l []api.Item, s api.Label) []api.Item {
	var rest []api.Item
	for _, one := range l {
		if !label.Below(one.Label, s) {
			rest = append(rest, one)
		}
	}
	return rest
}

// P18.3 with V2: what one sees behind it does not depend on what is hidden.
func TestHiddenPlaysNoPart(t *testing.T) {
	for _, l := range lists(3) {
		for _, s := range []string{"0", "1", "0:0"} {
			v, cut := view.Of(l, of(s), hidden), view.Cut(l, of(s))
			w := view.Of(cut, of(s), hidden)
			for _, m := range every(len(v.At), 1) {
				one, next, e := lift.Lift(l, v, of(s), m, 50)
				other, last, f := lift.Lift(cut, w, of(s), m, 50)
				if e != f || next != last || !slices.Equal(view.Cut(one, of(s)), other) {
					t.Fatalf("%v at %s, made %v: %v, %d; without the hidden %v, %d", l, s, m, one, e, other, f)
				}
			}
		}
	}
}

// P18.2: of many items, in a time that does not grow with their square.
func TestMany(t *testing.T) {
	const n = 200000
	var l, want []api.Item
	var m []api.Made
	secret := of("1")
	for i := range n {
		l = append(l, api.Item{ID: 2*i + 1}, api.Item{ID: 2*i + 2, Label: secret})
		switch i % 3 {
		case 0:
			m = append(m, old(i))
			want = append(want, l[2*i], l[2*i+1])
		case 1:
			m = append(m, old(i), fresh("x"), fresh("y"))
			next := 2*n + 1 + 2*(i/3)
			want = append(want, l[2*i], api.Item{ID: next, Line: api.Line{Text: "x"}}, api.Item{ID: next + 1, Line: api.Line{Text: "y"}}, l[2*i+1])
		case 2:
			want = append(want, l[2*i+1])
		}
	}
	got, next, e := lift.Lift(l, view.Of(l, api.Label{}, hidden), api.Label{}, m, 2*n+1)
	if e != api.OK || !slices.Equal(got, want) {
		t.Fatal(len(got), next, e)
	}
	m = slices.Repeat([]api.Made{fresh("x")}, n)
	if got, next, e = lift.Lift(l, api.View{}, secret, m, 1); e != api.OK || next != n+1 || len(got) != 3*n || got[n-1].ID != n || !slices.Equal(got[n:], l) {
		t.Fatal(len(got), next, e)
	}
}

// spoil writes into all of a list, and behind it.
func spoil[E any](l []E, with E) {
	l = l[:cap(l)]
	for i := range l {
		l[i] = with
	}
}

// P3, P6: what is handed in stays as it is, spare room too; what is answered is new, and nothing is kept.
func TestNothingIsShared(t *testing.T) {
	l, m := row("a0 h1 b0 c0 s0 p1 a0"), made("X0YZ1WSPARE")
	v := view.Of(l[:4], of("0"), hidden)
	v.At, v.Lines = append(v.At, 77)[:3], append(v.Lines, api.Line{Text: "77"})[:3]
	wasL, wasM, wasAt, wasLines := slices.Clone(l), slices.Clone(m), slices.Clone(v.At[:4]), slices.Clone(v.Lines[:4])
	var kept []api.Item
	for range 3 {
		for _, n := range []int{0, 1, 2, 3, 4, 5, 6} {
			got, _, e := lift.Lift(l[:4], v, of("0"), m[:n], 9)
			if e != api.OK || lift.Check(l[:4], v, of("0"), m[:n]) != api.OK {
				t.Fatal(n, e)
			}
			compare(t, l[:4], v, of("0"), m[:n], 9)
			kept = slices.Clone(got)
			spoil(got, api.Item{ID: 99})
		}
		same, _, _ := lift.Lift(l[:4], v, of("0"), made("012"), 9)
		spoil(same, api.Item{ID: 99})
		lift.Lift(l[:4], v, of("1"), m[:2], 9)
		lift.Lift(l[:4], v, of("0"), m[:2], 0)
		if !slices.Equal(l, wasL) || !slices.Equal(m, wasM) || !slices.Equal(v.At[:4], wasAt) || !slices.Equal(v.Lines[:4], wasLines) {
			t.Fatalf("left: %v, %v, %v", l, m, v)
		}
	}
	got, _, _ := lift.Lift(l[:4], v, of("0"), m[:6], 9)
	spoil(l, api.Item{ID: 99})
	spoil(m, old(9))
	spoil(v.At, 9)
	if !slices.Equal(got, kept) || told(got) != "XaYZhbW" {
		t.Errorf("kept: %v", got)
	}
}

// P1: nil and empty lists are answered alike.
func TestNil(t *testing.T) {
	for _, l := range [][]api.Item{nil, {}} {
		for _, v := range []api.View{{}, {At: []int{}, Lines: []api.Line{}}} {
			for _, m := range [][]api.Made{nil, {}} {
				got, next, e := lift.Lift(l, v, api.Label{}, m, 3)
				if e != api.OK || next != 3 || len(got) > 0 || lift.Check(l, v, api.Label{}, m) != api.OK {
					t.Errorf("%v, %d, %d", got, next, e)
				}
			}
		}
	}
}

// FuzzLift is P1, P3, P18.1 to P18.5: of any items, views, and lines that are made.
func FuzzLift(f *testing.F) {
	f.Add([]byte("abcabc"), []byte("\x00\x01\x41\x02"), uint64(3), 1, 0)
	f.Add([]byte("\x00\x11\x22\x33"), []byte("\x00\x01\x02\x03\x04"), uint64(0), 0, api.MaxNum-1)
	f.Add([]byte{}, []byte("\x80"), uint64(math.MaxUint64), -1, math.MaxInt)
	f.Fuzz(func(t *testing.T, b, does []byte, cats uint64, level, next int) {
		if len(b) > 200 || len(does) > 200 {
			return
		}
		s := api.Label{Level: level, Cats: cats}
		var l []api.Item
		var places []int
		for i, c := range b {
			one := api.Item{ID: int(c), Label: s, Anchor: c%7 == 0, Line: api.Line{Text: string(b[i : i+1]), Bare: c%5 == 0}}
			if c%2 == 0 {
				one.Label = api.Label{Level: level/2 + int(c%3) - 1, Cats: cats >> (c % 4)}
			}
			l = append(l, one)
			if c%3 != 0 {
				places = append(places, i)
			}
		}
		var m []api.Made
		for i, c := range does {
			switch {
			case c < 64:
				m = append(m, old(int(c)))
			case c < 128:
				m = append(m, api.Made{Line: api.Line{Text: string(does[i:]), Bare: c%2 == 0}})
			case c < 192:
				m = append(m, old(i))
			default:
				m = append(m, api.Made{Old: c%2 == 0, At: level, Line: api.Line{Bare: c%3 == 0}})
			}
		}
		wild := make([]int, 0, len(does))
		for _, c := range does {
			wild = append(wild, int(c)-1)
		}
		was, last := slices.Clone(l), slices.Clone(m)
		seen := view.Of(l, s, hidden)
		for _, v := range []api.View{seen, at(places...), at(wild...), {}} {
			compare(t, l, v, s, m, next)
			compare(t, l, v, s, nil, next)
		}
		follow(t, l, seen, s, m)
		if !slices.Equal(l, was) || !slices.Equal(m, last) {
			t.Errorf("left: %v, %v", l, m)
		}
	})
}
