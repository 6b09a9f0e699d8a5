package delta_test

import (
	"bytes"
	"math"
	"slices"
	"strconv"
	"strings"
	"testing"

	"jalousie/api"
	"jalousie/delta"
	"jalousie/label"
	"jalousie/text"
)

const allCats = 1<<64 - 1

// of is a label by its text.
func of(s string) api.Label {
	a, is := label.Parse(s)
	if !is {
		panic("no label: " + s)
	}
	return a
}

// row is items, a letter each; those of one letter are the same in all fields.
func row(letters string) []api.Item {
	var l []api.Item
	for i := range len(letters) {
		l = append(l, api.Item{ID: int(letters[i]), Line: api.Line{Text: letters[i : i+1]}})
	}
	return l
}

// told is items as a row of letters.
func told(l []api.Item) string {
	s := ""
	for _, one := range l {
		s += one.Line.Text
	}
	return s
}

// stay is n items of the newer list, and own a part with items.
func stay(at, n int) api.Part {
	return api.Part{At: at, N: n}
}

func own(l ...api.Item) api.Part {
	return api.Part{Items: l}
}

// put is a part with items, a letter each.
func put(letters string) api.Part {
	return own(row(letters)...)
}

func same(a, b []api.Part) bool {
	return slices.EqualFunc(a, b, func(x, y api.Part) bool {
		return x.At == y.At && x.N == y.N && slices.Equal(x.Items, y.Items)
	})
}

// whole is a delta that lies in no other one's memory, with what is in its parts' spare room, too.
func whole(d []api.Part) []api.Part {
	c := slices.Clone(d)
	for i, p := range d {
		c[i].Items = slices.Clone(p.Items[:cap(p.Items)])
	}
	return c
}

// every is all rows of up to n of some elements.
func every[E any](n int, some ...E) [][]E {
	all := [][]E{nil}
	last := all
	for range n {
		var next [][]E
		for _, l := range last {
			for _, one := range some {
				next = append(next, append(slices.Clone(l), one))
			}
		}
		all = append(all, next...)
		last = next
	}
	return all
}

// walk is Make as the document tells it, item by item.
func walk(newer, older []api.Item) []api.Part {
	var d []api.Part
	for i, j := 0, 0; i < len(newer) || j < len(older); {
		switch {
		case i < len(newer) && j < len(older) && newer[i] == older[j]:
			if n := len(d); n > 0 && d[n-1].N > 0 && d[n-1].At+d[n-1].N == i {
				d[n-1].N++
			} else {
				d = append(d, stay(i, 1))
			}
			i, j = i+1, j+1
		case j < len(older) && !slices.Contains(newer[i:], older[j]), i == len(newer):
			if n := len(d); n > 0 && d[n-1].N == 0 {
				d[n-1].Items = append(d[n-1].Items, older[j])
			} else {
				d = append(d, own(older[j]))
			}
			j++
		default:
			i++
		}
	}
	return d
}

// checkMake is P15.1, P15.4, of any two lists.
func checkMake(t *testing.T, newer, older []api.Item) []api.Part {
	t.Helper()
	d := delta.Make(newer, older)
	if want := walk(newer, older); !same(d, want) {
		t.Fatalf("from %s to %s: %v, not %v", told(newer), told(older), d, want)
	}
	if l, e := delta.Apply(newer, d); e != api.OK || !slices.Equal(l, older) {
		t.Fatalf("from %s to %s: %v makes %s, %d", told(newer), told(older), d, told(l), e)
	}
	n := 0
	for _, p := range d {
		n += len(p.Items)
	}
	if delta.Size(d) != n {
		t.Fatalf("Size(%v) = %d", d, delta.Size(d))
	}
	return d
}

// P15.1: Make, where it is told by hand.
func TestMake(t *testing.T) {
	for _, c := range []struct {
		newer, older string
		want         []api.Part
		size         int
	}{
		{"", "", nil, 0},
		{"a", "", nil, 0},
		{"", "a", []api.Part{put("a")}, 1},
		{"", "aab", []api.Part{put("aab")}, 3},
		{"abc", "abc", []api.Part{stay(0, 3)}, 0},
		{"abc", "ac", []api.Part{stay(0, 1), stay(2, 1)}, 0}, // The document's example.
		{"abc", "c", []api.Part{stay(2, 1)}, 0},
		{"abc", "ab", []api.Part{stay(0, 2)}, 0},
		{"ac", "abc", []api.Part{stay(0, 1), put("b"), stay(1, 1)}, 1},
		{"abc", "axyc", []api.Part{stay(0, 1), put("xy"), stay(2, 1)}, 2},
		{"ab", "xaby", []api.Part{put("x"), stay(0, 2), put("y")}, 2},
		{"abcd", "wxyz", []api.Part{put("wxyz")}, 4},
		// What is not among those that are left is put in, ahead of what is left out.
		{"ab", "ba", []api.Part{stay(1, 1), put("a")}, 1},
		{"abcd", "dabc", []api.Part{stay(3, 1), put("abc")}, 3},
		{"abcd", "bcda", []api.Part{stay(1, 3), put("a")}, 1},
		{"abcd", "xb", []api.Part{put("x"), stay(1, 1)}, 1},
		{"abcd", "bxd", []api.Part{stay(1, 1), put("x"), stay(3, 1)}, 1},
		// Alike ones are each there as often as they are.
		{"aa", "a", []api.Part{stay(0, 1)}, 0},
		{"a", "aa", []api.Part{stay(0, 1), put("a")}, 1},
		{"aba", "aa", []api.Part{stay(0, 1), stay(2, 1)}, 0},
		{"aba", "baab", []api.Part{stay(1, 2), put("ab")}, 2},
		{"abab", "bbaa", []api.Part{stay(1, 1), stay(3, 1), put("aa")}, 2},
		{"abcab", "cbaab", []api.Part{stay(2, 1), stay(4, 1), put("aab")}, 3},
	} {
		d := checkMake(t, row(c.newer), row(c.older))
		if !same(d, c.want) || delta.Size(d) != c.size {
			t.Errorf("from %s to %s: %v, of size %d", c.newer, c.older, d, delta.Size(d))
		}
	}
}

// P15.1: two items are the same just if they are in all fields.
func TestMakeAllFields(t *testing.T) {
	one := api.Item{ID: 7, Label: of("2:0,1"), Line: api.Line{Text: "x"}}
	for _, change := range []func(*api.Item){
		func(i *api.Item) { i.ID = 8 },
		func(i *api.Item) { i.ID = -7 },
		func(i *api.Item) { i.Label.Level = 3 },
		func(i *api.Item) { i.Label.Level = math.MinInt },
		func(i *api.Item) { i.Label.Cats = 1 },
		func(i *api.Item) { i.Label.Cats = allCats },
		func(i *api.Item) { i.Anchor = true },
		func(i *api.Item) { i.Line.Text = "" },
		func(i *api.Item) { i.Line.Text = "X" },
		func(i *api.Item) { i.Line.Text = "x\n" },
		func(i *api.Item) { i.Line.Bare = true },
	} {
		other := one
		change(&other)
		for _, c := range []struct{ newer, older, own api.Item }{{one, other, other}, {other, one, one}} {
			d := checkMake(t, []api.Item{c.newer, c.newer}, []api.Item{c.newer, c.older, c.newer})
			if !same(d, []api.Part{stay(0, 1), own(c.own), stay(1, 1)}) {
				t.Errorf("%v and %v: %v", c.newer, c.older, d)
			}
		}
	}
}

// P15.1, P15.4: of all short lists.
func TestMakeAll(t *testing.T) {
	short := every(5, row("abc")...)
	for _, newer := range short {
		for _, older := range short {
			checkMake(t, newer, older)
		}
	}
}

// P15.1, P15.4: of many items, in a time that does not grow with their square.
func TestMakeMany(t *testing.T) {
	const n = 200000
	var newer, evens, odds, mixed []api.Item
	for i := range n {
		one := api.Item{ID: i + 1, Line: api.Line{Text: strconv.Itoa(i)}}
		newer = append(newer, one)
		mixed = append(mixed, one)
		if i%2 == 0 {
			evens = append(evens, one)
			mixed[i].ID += n
		} else {
			odds = append(odds, one)
		}
	}
	for _, c := range []struct {
		what         string
		newer, older []api.Item
		parts, size  int
	}{
		{"the same", newer, newer, 1, 0},
		{"half of them", newer, evens, n / 2, 0},
		{"twice as many", odds, newer, n, n / 2},
		{"none of them", evens, odds, 1, n / 2},
		{"each other one", newer, mixed, n, n / 2},
		{"one behind the other", slices.Concat(odds, evens), slices.Concat(evens, odds), 2, n / 2},
	} {
		d := delta.Make(c.newer, c.older)
		if len(d) != c.parts || delta.Size(d) != c.size {
			t.Errorf("%s: %d parts, of size %d", c.what, len(d), delta.Size(d))
		}
		if l, e := delta.Apply(c.newer, d); e != api.OK || !slices.Equal(l, c.older) {
			t.Errorf("%s: %d items, %d", c.what, len(l), e)
		}
	}
}

// P15.1: Size, of parts that no call made, too.
func TestSize(t *testing.T) {
	for _, c := range []struct {
		d    []api.Part
		want int
	}{
		{nil, 0},
		{[]api.Part{stay(0, 5)}, 0},
		{[]api.Part{put("ab")}, 2},
		{[]api.Part{put("ab"), stay(0, 9), put("c"), put("d")}, 4},
		{[]api.Part{{}, {At: -1, N: math.MaxInt}, {N: math.MinInt, Items: row("abc")}}, 3},
	} {
		if n := delta.Size(c.d); n != c.want {
			t.Errorf("Size(%v) = %d", c.d, n)
		}
	}
}

// P15.2: Apply, where it is told by hand.
func TestApply(t *testing.T) {
	for _, c := range []struct {
		d    []api.Part
		want string
	}{
		{nil, ""},
		{[]api.Part{}, ""},
		{[]api.Part{stay(0, 4)}, "abcd"},
		{[]api.Part{stay(3, 1)}, "d"},
		{[]api.Part{stay(2, 2), stay(0, 2)}, "cdab"},
		{[]api.Part{stay(0, 1), stay(1, 1)}, "ab"},
		{[]api.Part{stay(1, 2), stay(1, 2), stay(0, 4)}, "bcbcabcd"},
		{[]api.Part{put("x"), put("yz"), stay(3, 1), put("a")}, "xyzda"},
		{[]api.Part{{N: 1, Items: []api.Item{}}}, "a"},
	} {
		if l, e := delta.Apply(row("abcd"), c.d); e != api.OK || told(l) != c.want || !slices.Equal(l, row(c.want)) {
			t.Errorf("Apply(%v) = %s, %d", c.d, told(l), e)
		}
	}
	wild := []api.Item{{ID: -1, Label: api.Label{Level: -5, Cats: allCats}, Anchor: true, Line: api.Line{Text: "\n", Bare: true}}}
	if l, e := delta.Apply(nil, []api.Part{own(wild...)}); e != api.OK || !slices.Equal(l, wild) {
		t.Errorf("of nil: %v, %d", l, e)
	}
}

// wrongParts is parts that are none, whatever the newer list has.
func wrongParts() []struct {
	p    api.Part
	want api.Errno
} {
	x := row("x")
	return []struct {
		p    api.Part
		want api.Errno
	}{
		{api.Part{}, api.ErrForm},
		{api.Part{Items: []api.Item{}}, api.ErrForm},
		{api.Part{At: 1}, api.ErrForm},
		{api.Part{At: -1}, api.ErrForm},
		{api.Part{At: math.MaxInt}, api.ErrForm},
		{api.Part{N: 1, Items: x}, api.ErrForm},
		{api.Part{N: -1, Items: x}, api.ErrForm},
		{api.Part{At: -1, N: math.MaxInt, Items: x}, api.ErrForm},
		{stay(-1, 1), api.ErrArg},
		{stay(0, -1), api.ErrArg},
		{stay(1, -1), api.ErrArg},
		{stay(-1, -1), api.ErrArg},
		{stay(math.MinInt, 1), api.ErrArg},
		{stay(0, math.MinInt), api.ErrArg},
		{stay(math.MinInt, math.MinInt), api.ErrArg},
		{stay(math.MinInt, math.MaxInt), api.ErrArg},
		{stay(math.MaxInt, math.MinInt), api.ErrArg},
		{stay(math.MaxInt, math.MaxInt), api.ErrArg},
		{stay(1, math.MaxInt), api.ErrArg},
		{stay(math.MaxInt, 1), api.ErrArg},
		{api.Part{At: 1, Items: x}, api.ErrArg},
		{api.Part{At: -1, Items: x}, api.ErrArg},
		{api.Part{At: math.MaxInt, Items: x}, api.ErrArg},
		{api.Part{At: math.MinInt, Items: x}, api.ErrArg},
	}
}

// P15.2, P2: what Apply refuses.
func TestApplyErrors(t *testing.T) {
	newer := row("abcd")
	refuse := func(d []api.Part, want api.Errno) {
		t.Helper()
		if l, e := delta.Apply(newer, d); e != want || len(l) > 0 {
			t.Errorf("Apply(%v) = %v, %d; not %d", d, l, e, want)
		}
	}
	for _, c := range wrongParts() {
		refuse([]api.Part{c.p}, c.want)
		refuse([]api.Part{stay(0, 1), put("x"), c.p, put("y")}, c.want)
		// The first part that has an error counts, and of it the error that is named first.
		refuse([]api.Part{c.p, {}, stay(0, 5)}, c.want)
		refuse([]api.Part{{}, c.p}, api.ErrForm)
		refuse([]api.Part{stay(0, 5), c.p}, api.ErrArg)
	}
	for _, p := range []api.Part{stay(0, 5), stay(4, 1), stay(3, 2), stay(1, 4), stay(5, 1), stay(4, 4), stay(math.MaxInt, 4), stay(4, math.MaxInt)} {
		refuse([]api.Part{p}, api.ErrArg)
		refuse([]api.Part{put("x"), p}, api.ErrArg)
	}
	newer = nil
	refuse([]api.Part{stay(0, 1)}, api.ErrArg)
	refuse([]api.Part{put("x"), stay(0, 1)}, api.ErrArg)
}

// some is items of all kinds that may be told.
func some() []api.Item {
	return []api.Item{
		{},
		{ID: 1, Line: api.Line{Text: "b"}},
		{ID: api.MaxNum, Label: of("15:0,63"), Anchor: true},
		{ID: 20, Label: of("3"), Line: api.Line{Text: "z z", Bare: true}},
		{ID: 3, Label: of("0:7"), Anchor: true, Line: api.Line{Text: " next\r", Bare: true}},
		{ID: 4, Label: api.Label{Level: 15, Cats: allCats}, Line: api.Line{Text: strings.Repeat("\xff", api.MaxText)}},
		{ID: 5, Anchor: true, Line: api.Line{Text: "a"}},
		{ID: 6, Line: api.Line{Bare: true}},
		{ID: 7, Anchor: true, Line: api.Line{Bare: true}},
		{ID: 8, Line: api.Line{Text: "\x00  item 1 0 l"}},
	}
}

// P15.3: Print and Parse, where they are told by hand.
func TestPrint(t *testing.T) {
	all := of("15:0,63")
	all.Cats = allCats
	for _, c := range []struct {
		d    []api.Part
		want string
	}{
		{nil, ""},
		{[]api.Part{stay(0, 1)}, "copy 0 1\n"},
		{[]api.Part{stay(12, 30), stay(0, 7)}, "copy 12 30\ncopy 0 7\n"},
		{[]api.Part{stay(api.MaxNum, api.MaxNum)}, "copy 2147483647 2147483647\n"},
		{[]api.Part{own(api.Item{})}, "item 0 0 l \n"},
		{[]api.Part{own(api.Item{Anchor: true})}, "item 0 0 a \n"},
		{[]api.Part{own(some()[1])}, "item 1 0 l b\n"},
		{[]api.Part{own(some()[2])}, "item 2147483647 15:0,63 a \n"},
		{[]api.Part{own(some()[3])}, "item 20 3 lb z z\n"},
		{[]api.Part{own(some()[4])}, "item 3 0:7 ab  next\r\n"},
		{[]api.Part{own(some()[5])}, "item 4 " + label.Print(all) + " l " + strings.Repeat("\xff", 200) + "\n"},
		{[]api.Part{own(some()[6])}, "item 5 0 a a\n"},
		{[]api.Part{own(some()[7])}, "item 6 0 lb \n"},
		{[]api.Part{own(some()[8])}, "item 7 0 ab \n"},
		{[]api.Part{own(some()[9])}, "item 8 0 l \x00  item 1 0 l\n"},
		{[]api.Part{own(some()[:2]...)}, "item 0 0 l \nitem 1 0 l b\n"},
		{[]api.Part{own(some()[0]), own(some()[1])}, "item 0 0 l \nnext\nitem 1 0 l b\n"},
		{[]api.Part{own(some()[:2]...), own(some()[1]), own(some()[1])}, "item 0 0 l \nitem 1 0 l b\nnext\nitem 1 0 l b\nnext\nitem 1 0 l b\n"},
		{[]api.Part{own(some()[0]), stay(0, 1), own(some()[1])}, "item 0 0 l \ncopy 0 1\nitem 1 0 l b\n"},
		{[]api.Part{stay(0, 1), own(some()[0]), stay(0, 1), stay(0, 1)}, "copy 0 1\nitem 0 0 l \ncopy 0 1\ncopy 0 1\n"},
	} {
		b, e := delta.Print(c.d)
		if e != api.OK || string(b) != c.want {
			t.Errorf("Print(%v) = %q, %d", c.d, b, e)
		}
		if d, e := delta.Parse([]byte(c.want)); e != api.OK || !same(d, c.d) {
			t.Errorf("Parse(%q) = %v, %d", c.want, d, e)
		}
	}
	if b, e := delta.Print([]api.Part{{At: 3, N: 2, Items: []api.Item{}}}); e != api.OK || string(b) != "copy 3 2\n" {
		t.Errorf("an empty list: %q, %d", b, e)
	}
}

// wrongItems is items that may not be told.
func wrongItems() []struct {
	one  api.Item
	want api.Errno
} {
	long := strings.Repeat("x", api.MaxText+1)
	item := func(id, level int, s string) api.Item {
		return api.Item{ID: id, Label: api.Label{Level: level}, Line: api.Line{Text: s}}
	}
	return []struct {
		one  api.Item
		want api.Errno
	}{
		{item(-1, 0, ""), api.ErrArg},
		{item(math.MinInt, 0, ""), api.ErrArg},
		{item(api.MaxNum+1, 0, ""), api.ErrArg},
		{item(math.MaxInt, 0, ""), api.ErrArg},
		{item(1, -1, ""), api.ErrArg},
		{item(1, 16, ""), api.ErrArg},
		{item(1, math.MaxInt, ""), api.ErrArg},
		{item(-1, 0, long+"\n"), api.ErrArg},
		{item(1, 16, long+"\n"), api.ErrArg},
		{item(1, 0, "\n"), api.ErrForm},
		{item(1, 0, "x\n"), api.ErrForm},
		{item(1, 0, "\nx"), api.ErrForm},
		{item(1, 0, long+"\n"), api.ErrForm},
		{api.Item{ID: 1, Anchor: true, Line: api.Line{Text: "x\ny", Bare: true}}, api.ErrForm},
		{item(1, 0, long), api.ErrLimit},
		{item(1, 0, strings.Repeat("x", 1<<20)), api.ErrLimit},
		{api.Item{ID: 1, Anchor: true, Line: api.Line{Text: long, Bare: true}}, api.ErrLimit},
	}
}

// P15.3, P2: what Print refuses: the first part that has an error counts, and of it the first item.
func TestPrintErrors(t *testing.T) {
	refuse := func(want api.Errno, d ...api.Part) {
		t.Helper()
		if b, e := delta.Print(d); e != want || len(b) > 0 {
			t.Errorf("Print(%.200v) = %q, %d; not %d", d, b, e, want)
		}
	}
	parts := wrongParts()
	for _, p := range []api.Part{stay(api.MaxNum+1, 1), stay(0, api.MaxNum+1), stay(api.MaxNum, api.MaxNum+1), stay(math.MaxInt, math.MaxInt)} {
		parts = append(parts, struct {
			p    api.Part
			want api.Errno
		}{p, api.ErrArg})
	}
	for _, c := range parts {
		refuse(c.want, c.p)
		refuse(c.want, stay(0, 1), put("x"), c.p, put("y"))
		refuse(c.want, c.p, api.Part{}, stay(0, -1))
		refuse(api.ErrForm, api.Part{}, c.p)
		refuse(api.ErrArg, stay(-1, 1), c.p)
	}
	for _, c := range wrongItems() {
		refuse(c.want, own(c.one))
		refuse(c.want, stay(0, 1), put("x"), own(row("y")[0], c.one, row("z")[0]), put("w"))
		// What is wrong with a part counts ahead of its items.
		refuse(api.ErrForm, api.Part{N: 1, Items: []api.Item{c.one}})
		refuse(api.ErrArg, api.Part{At: 1, Items: []api.Item{c.one}})
		refuse(api.ErrArg, api.Part{At: math.MaxInt, Items: []api.Item{c.one}})
		for _, other := range wrongItems() {
			refuse(c.want, own(c.one, other.one))
			refuse(c.want, own(c.one), own(other.one))
		}
		for _, p := range parts {
			refuse(c.want, own(c.one), p.p)
			refuse(p.want, p.p, own(c.one))
		}
	}
}

// P15.3, P2: texts that no Print is.
func TestParseErrors(t *testing.T) {
	for _, s := range []string{
		"\n", " \n", "x\n", "x", "\x00\n", "\xff\n", "#\n", "copies 0 1\n", "Copy 0 1\n", " copy 0 1\n", "-\n",
		"copy\n", "copy \n", "copy 0\n", "copy 0 \n", "copy  0 1\n", "copy 0  1\n", "copy 0 1 \n", "copy 0 1 2\n", "copy 0 1", "copy 0 1\r\n", "copy\t0 1\n", "copy 0 1\n\n", "\ncopy 0 1\n",
		"copy 0 0\n", "copy 5 0\n", "copy -1 1\n", "copy 0 -1\n", "copy +0 1\n", "copy 00 1\n", "copy 0 01\n", "copy ? 1\n", "copy 0 ?\n", "copy x 1\n", "copy 0 x\n", "copy 0 1.0\n", "copy 0 0x1\n",
		"copy 2147483648 1\n", "copy 0 2147483648\n", "copy 99999999999999999999 1\n", "copy 0 18446744073709551617\n",
		"next\n", "next", "next\nnext\n", "copy 0 1\nnext\n", "next\ncopy 0 1\n", "copy 0 1\nnext\ncopy 0 1\n", "next\nitem 1 0 l x\n", "item 1 0 l x\nnext\n", "item 1 0 l x\nnext", "item 1 0 l x\nnext\ncopy 0 1\n",
		"copy 0 1\nnext\nitem 1 0 l x\n", "item 1 0 l x\nnext\nnext\nitem 1 0 l x\n", "item 1 0 l x\nnext \nitem 1 0 l x\n", "item 1 0 l x\nnext x\nitem 1 0 l x\n", "item 1 0 l x\ncopy 0 1\nnext\nitem 1 0 l x\n", "Next\n",
		"item\n", "item \n", "item 1\n", "item 1 0\n", "item 1 0 l\n", "item 1 0 a\n", "item 1 0  x\n", "item  1 0 l x\n", "item 1  0 l x\n", "item 1 0  l x\n", " item 1 0 l x\n", "item 1 0 l x", "item 1 0 l ", "items 1 0 l x\n",
		"item 01 0 l x\n", "item -1 0 l x\n", "item x 0 l x\n", "item ? 0 l x\n", "item 2147483648 0 l x\n", "item 99999999999999999999 0 l x\n",
		"item 1 16 l x\n", "item 1 -1 l x\n", "item 1 00 l x\n", "item 1 0: l x\n", "item 1 0:64 l x\n", "item 1 0:1,0 l x\n", "item 1 0:1,1 l x\n", "item 1 0:1, 2 l x\n", "item 1 ? l x\n", "item 1 x l x\n",
		"item 1 0 x y\n", "item 1 0 L x\n", "item 1 0 A x\n", "item 1 0 b x\n", "item 1 0 bl x\n", "item 1 0 al x\n", "item 1 0 la x\n", "item 1 0 ll x\n", "item 1 0 lbb x\n", "item 1 0 axb x\n", "item 1 0 l\tx\n", "item 1 0 B x\n",
		"item 1 0 l " + strings.Repeat("x", 201) + "\n", "item 1 0 a " + strings.Repeat(" ", 201) + "\n", "copy 0 0\nitem 1 0 l x\n", "copy 5 0\nitem 1 0 l x\n", "item 1 0 l x\ny\n", "item 1 0 l x\n\n", "item 1 0 l x\ncopy 0 1",
	} {
		for _, ahead := range []string{"", "copy 3 4\n", "item 2 1 ab y\ncopy 3 4\n", "item 2 1 ab y\nnext\nitem 3 0 l \ncopy 0 1\n"} {
			if d, e := delta.Parse([]byte(ahead + s)); e != api.ErrForm || len(d) > 0 {
				t.Errorf("Parse(%q) = %v, %d", ahead+s, d, e)
			}
		}
	}
	if d, e := delta.Parse(nil); e != api.OK || len(d) > 0 {
		t.Errorf("of nil: %v, %d", d, e)
	}
}

// P15.5, and P15.3: Parse of Print is the delta, of all short rows of parts; no two have one text.
func TestParseOfPrintAll(t *testing.T) {
	l := some()
	known := map[string]bool{}
	for _, d := range every(4, stay(0, 1), stay(1, 1), stay(10, 2), own(l[0]), own(l[1]), own(l[3], l[4]), own(l...)) {
		b, e := delta.Print(d)
		if e != api.OK || known[string(b)] {
			t.Fatalf("Print(%v) = %q, %d", d, b, e)
		}
		known[string(b)] = true
		if got, e := delta.Parse(b); e != api.OK || !same(got, d) {
			t.Fatalf("Parse(%q) = %v, %d", b, got, e)
		}
	}
}

// checkParse is P15.3 of any text: it is a delta's, or none.
func checkParse(t *testing.T, b []byte) {
	t.Helper()
	d, e := delta.Parse(b)
	if e == api.ErrForm && len(d) == 0 {
		return
	}
	if e != api.OK {
		t.Fatalf("Parse(%q) = %v, %d", b, d, e)
	}
	if again, e := delta.Print(d); e != api.OK || !bytes.Equal(again, b) {
		t.Fatalf("Print of Parse(%q) = %q, %d", b, again, e)
	}
}

// P15.3: texts that are a byte away from one of a delta.
func TestParseNearby(t *testing.T) {
	b, e := delta.Print([]api.Part{stay(0, 12), own(some()[1], some()[3]), own(some()[4]), stay(10, 1)})
	if e != api.OK {
		t.Fatal(e)
	}
	for i := range b {
		checkParse(t, slices.Delete(slices.Clone(b), i, i+1))
		checkParse(t, b[:i])
		checkParse(t, b[i:])
		for _, c := range []byte("\n 0179:,abcilx?-\x00\xff") {
			checkParse(t, slices.Insert(slices.Clone(b), i, c))
			checkParse(t, slices.Replace(slices.Clone(b), i, i+1, c))
		}
	}
}

// P15.4, P15.5: what is made of two lists is told, and made of what was told.
func TestMakePrintParseApply(t *testing.T) {
	l := some()
	short := every(4, l[1], l[3], l[4], l[6])
	for _, newer := range short {
		for _, older := range short {
			b, e := delta.Print(delta.Make(newer, older))
			if e != api.OK {
				t.Fatalf("from %v to %v: %d", newer, older, e)
			}
			d, e := delta.Parse(b)
			if e != api.OK {
				t.Fatalf("from %v to %v: %q, %d", newer, older, b, e)
			}
			if got, e := delta.Apply(newer, d); e != api.OK || !slices.Equal(got, older) {
				t.Fatalf("from %v to %v: %v, %d", newer, older, got, e)
			}
		}
	}
}

// P3: what is handed in stays as it is, spare room too.
func TestArgumentsStay(t *testing.T) {
	newer, older := row("abcdSPARE"), row("xacdyROOM")
	d := []api.Part{stay(0, 1), {Items: row("xySPARE")[:2]}, {Items: row("zROOM")[:1]}, stay(2, 2), {}, stay(9, 9)}
	b := []byte("copy 0 1\nitem 1 0 l x\nnext\nitem 2 0 a \nSPARE")
	wasNewer, wasOlder, wasD, wasB := slices.Clone(newer), slices.Clone(older), whole(d), slices.Clone(b)
	delta.Make(newer[:4], older[:5])
	delta.Make(newer[:4], newer[:4])
	for _, n := range []int{4, 5, 6} {
		delta.Size(d[:n])
		delta.Apply(newer[:4], d[:n])
		delta.Print(d[:n])
	}
	delta.Parse(b[:len(b)-5])
	delta.Parse(b)
	if !slices.Equal(newer, wasNewer) || !slices.Equal(older, wasOlder) || !bytes.Equal(b, wasB) || !same(whole(d), wasD) {
		t.Errorf("left: %s, %s, %v, %q", told(newer), told(older), whole(d), b)
	}
}

// spoil writes into all of a list, and behind it.
func spoil[E any](l []E, with E) {
	l = l[:cap(l)]
	for i := range l {
		l[i] = with
	}
}

// spoilParts writes into each list of a delta in turn, and says whether another one came to be changed by that.
func spoilParts(d []api.Part) bool {
	for i := range d {
		was := whole(d[i+1:])
		spoil(d[i].Items, api.Item{ID: 99})
		if !same(whole(d[i+1:]), was) {
			return true
		}
	}
	spoil(d, api.Part{At: 99})
	return false
}

// P3, P6: what is answered lies in nothing that was handed in, and nothing is kept.
func TestAnswersAreNew(t *testing.T) {
	newer, older := row("abcd"), row("xyazdw")
	parts := []api.Part{put("xy"), stay(0, 1), put("z"), stay(3, 1), put("w")}
	b := []byte("item 120 0 l x\nitem 121 0 l y\ncopy 0 1\nitem 122 0 l z\ncopy 3 1\nitem 119 0 l w\n")
	for range 3 {
		d := delta.Make(newer, older)
		if !same(d, parts) || spoilParts(d) {
			t.Fatalf("%v", d)
		}
		l, e := delta.Apply(newer, parts)
		if e != api.OK || !slices.Equal(l, older) {
			t.Fatalf("%v, %d", l, e)
		}
		spoil(l, api.Item{ID: 99})
		for _, p := range parts {
			l, e := delta.Apply(newer, []api.Part{p})
			if e != api.OK || len(l) == 0 {
				t.Fatalf("%v, %d", l, e)
			}
			spoil(l, api.Item{ID: 99})
		}
		text, e := delta.Print(parts)
		if e != api.OK || !bytes.Equal(text, b) {
			t.Fatalf("%q, %d", text, e)
		}
		spoil(text, 'z')
		d, e = delta.Parse(b)
		if e != api.OK || !same(d, parts) || spoilParts(d) {
			t.Fatalf("%v, %d", d, e)
		}
	}
	if told(newer) != "abcd" || told(older) != "xyazdw" {
		t.Errorf("left: %s, %s", told(newer), told(older))
	}
}

// P3: what was read does not hang on the bytes any more, nor what was made on the lists.
func TestNothingIsKept(t *testing.T) {
	b := []byte("item 1 0 l x\n")
	d, _ := delta.Parse(b)
	spoil(b, 'z')
	if !same(d, []api.Part{own(api.Item{ID: 1, Line: api.Line{Text: "x"}})}) {
		t.Errorf("%v", d)
	}
	newer, older := row("a"), row("xay")
	d = delta.Make(newer, older)
	l, _ := delta.Apply(newer, d)
	spoil(newer, api.Item{})
	spoil(older, api.Item{})
	if !same(d, []api.Part{put("x"), stay(0, 1), put("y")}) || told(l) != "xay" {
		t.Errorf("%v, %v", d, l)
	}
}

// FuzzLists is P1, P15.1, P15.4: of any two lists whose items may be the same ones.
func FuzzLists(f *testing.F) {
	f.Add("abcabba", "cbabac")
	f.Add("", "aaa")
	f.Add("\xff\x00\xff", "\x00\xff\x00\x01")
	f.Fuzz(func(t *testing.T, a, b string) {
		if len(a)+len(b) > 2000 {
			return
		}
		newer, older := row(a), row(b)
		was, last := slices.Clone(newer), slices.Clone(older)
		checkMake(t, newer, older)
		if !slices.Equal(newer, was) || !slices.Equal(older, last) {
			t.Errorf("left: %v, %v", newer, older)
		}
	})
}

// FuzzParse is P1, P15.3, P15.5: of any text.
func FuzzParse(f *testing.F) {
	f.Add([]byte("copy 0 1\nitem 2 0 l b\ncopy 2 2\nitem 6 0 lb z z\n"))
	f.Add([]byte("item 2 15:0,63 ab \nnext\nitem 2 0 a x\n"))
	f.Add([]byte("next\n\ncopy 2147483647 2147483648"))
	f.Fuzz(func(t *testing.T, b []byte) {
		was := slices.Clone(b)
		checkParse(t, b)
		if !bytes.Equal(b, was) {
			t.Errorf("left: %q", b)
		}
	})
}

// FuzzPrint is P1, P15.2, P15.3, P15.5: of any parts.
func FuzzPrint(f *testing.F) {
	f.Add(0, 1, 0, 2, 5, 1, uint64(3), "a", 0, 1)
	f.Add(-1, 0, 1, math.MaxInt, api.MaxNum, 15, uint64(math.MaxUint64), "x y\n", 1, 200)
	f.Add(math.MaxInt, math.MaxInt, math.MinInt, math.MinInt, api.MaxNum+1, 16, uint64(0), "", 2, 201)
	f.Fuzz(func(t *testing.T, at, n, more, times, id, level int, cats uint64, s string, kind, has int) {
		one := api.Item{ID: id, Label: api.Label{Level: level, Cats: cats}, Anchor: kind&1 != 0, Line: api.Line{Text: s, Bare: kind&2 != 0}}
		items := slices.Repeat([]api.Item{one}, has&3)
		d := []api.Part{{At: at, N: n}, {At: more, N: times, Items: items}, {Items: items}, {At: at, N: n, Items: items}}
		for k := range len(d) + 1 {
			newer := make([]api.Item, has&7)
			checkPrint(t, d[:k])
			checkApply(t, newer, d[:k])
		}
	})
}

// fault is what is wrong with a part, as the document tells it, of a list of so many items.
func fault(p api.Part, has int) api.Errno {
	switch {
	case p.N != 0 && len(p.Items) > 0 || p.N == 0 && len(p.Items) == 0:
		return api.ErrForm
	case p.At < 0 || p.N < 0 || p.At > has || p.N > has || p.At+p.N > has || len(p.Items) > 0 && p.At != 0:
		return api.ErrArg
	}
	return api.OK
}

func checkApply(t *testing.T, newer []api.Item, d []api.Part) {
	t.Helper()
	want := api.OK
	n := 0
	for _, p := range d {
		if want == api.OK {
			want = fault(p, len(newer))
		}
		n += p.N + len(p.Items)
	}
	l, e := delta.Apply(newer, d)
	if e != want || e == api.OK && len(l) != n || e != api.OK && len(l) != 0 {
		t.Fatalf("Apply(%v, %v) = %v, %d; not %d", newer, d, l, e, want)
	}
}

func checkPrint(t *testing.T, d []api.Part) {
	t.Helper()
	want := api.OK
	for _, p := range d {
		if want != api.OK {
			break
		}
		// Numbers up to MaxNum may be told of a list of any length.
		want = fault(p, 2*api.MaxNum)
		if want == api.OK && (p.At > api.MaxNum || p.N > api.MaxNum) {
			want = api.ErrArg
		}
		for _, one := range p.Items {
			if want == api.OK {
				want = itemFault(one)
			}
		}
	}
	b, e := delta.Print(d)
	if e != want || e != api.OK && len(b) > 0 {
		t.Fatalf("Print(%v) = %q, %d; not %d", d, b, e, want)
	}
	if e != api.OK {
		return
	}
	if got, e := delta.Parse(b); e != api.OK || !same(got, d) {
		t.Fatalf("Parse(%q) = %v, %d", b, got, e)
	}
}

func itemFault(one api.Item) api.Errno {
	switch {
	case text.Decimal(one.ID) == "?" || !label.Right(one.Label):
		return api.ErrArg
	case strings.ContainsRune(one.Line.Text, '\n'):
		return api.ErrForm
	case len(one.Line.Text) > 200:
		return api.ErrLimit
	}
	return api.OK
}
