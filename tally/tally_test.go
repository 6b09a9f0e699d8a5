package tally_test

import (
	"math"
	"slices"
	"strings"
	"testing"

	"jalousie/api"
	"jalousie/label"
	"jalousie/tally"
)

// of is a label by its text.
func of(s string) api.Label {
	a, is := label.Parse(s)
	if !is {
		panic("no label: " + s)
	}
	return a
}

// items is told word by word: a label, and behind it a mark, if it is an anchor.
func items(s string) []api.Item {
	var l []api.Item
	for i, word := range strings.Fields(s) {
		name, anchor := strings.CutSuffix(word, "^")
		one := api.Item{ID: i + 1, Label: of(name), Anchor: anchor}
		if !anchor {
			one.Line.Text = word
		}
		l = append(l, one)
	}
	return l
}

// counts is told word by word: a label, and how many lines it has.
func counts(s string) []api.Count {
	var all []api.Count
	for _, word := range strings.Fields(s) {
		name, n, _ := strings.Cut(word, "=")
		all = append(all, api.Count{Label: of(name), Lines: len(n)})
	}
	return all
}

// some is labels of which some lie below each other, and some do not; the last three are none that is right.
func some() []api.Label {
	return []api.Label{
		of("0"), of("1"), of("0:0"), of("1:1"), of("2:0,1"), {Level: -1, Cats: 2}, {Level: 16}, {Level: math.MaxInt, Cats: 1 << 63},
	}
}

// every is all rows of up to n items, of four labels, lines and anchors.
func every(n int) [][]api.Item {
	all := [][]api.Item{nil}
	last := all
	for range n {
		var next [][]api.Item
		for _, l := range last {
			for _, a := range some()[1:5] {
				for _, anchor := range []bool{false, true} {
					next = append(next, append(slices.Clone(l), api.Item{Label: a, Anchor: anchor}))
				}
			}
		}
		all = append(all, next...)
		last = next
	}
	return all
}

// lines says it by itself, for what is held against it.
func lines(l []api.Item, a api.Label) int {
	n := 0
	for _, one := range l {
		if one.Label.Level == a.Level && one.Label.Cats == a.Cats && !one.Anchor {
			n++
		}
	}
	return n
}

// ahead says it by itself: does the first label stand ahead of the other one?
func ahead(a, b api.Label) bool {
	return a.Level < b.Level || a.Level == b.Level && a.Cats < b.Cats
}

// quotas is numbers around those that lists of some items have.
func quotas(n int) []int {
	l := []int{math.MinInt, math.MaxInt}
	for q := -2; q < n+2; q++ {
		l = append(l, q)
	}
	return l
}

// check is P19.1 to P19.3, of any items.
func check(t *testing.T, l []api.Item) {
	t.Helper()
	all := tally.Counts(l)
	sum, labels := 0, map[api.Label]int{}
	for i, c := range all {
		if i > 0 && !ahead(all[i-1].Label, c.Label) {
			t.Fatalf("Counts(%v) = %v", l, all)
		}
		if c.Lines < 1 || c.Lines != lines(l, c.Label) {
			t.Fatalf("Counts(%v) = %v", l, all)
		}
		labels[c.Label] = c.Lines
		sum += c.Lines
	}
	n := 0
	for _, one := range l {
		if got := tally.Lines(l, one.Label); got != lines(l, one.Label) || got != labels[one.Label] {
			t.Fatalf("Lines(%v, %v) = %d", l, one.Label, got)
		}
		if !one.Anchor {
			n++
		}
	}
	if sum != n {
		t.Fatalf("Counts(%v) = %v: not %d lines", l, all, n)
	}
	checkOver(t, l, all)
}

// checkOver is P19.2, of items that have these counts.
func checkOver(t *testing.T, l []api.Item, all []api.Count) {
	t.Helper()
	for _, quota := range quotas(len(l)) {
		var want []api.Label
		for _, c := range all {
			if c.Lines > quota {
				want = append(want, c.Label)
			}
		}
		if got := tally.Over(l, quota); !slices.Equal(got, want) {
			t.Fatalf("Over(%v, %d) = %v", l, quota, got)
		}
		if got := tally.Fits(l, quota); got != (len(want) == 0) {
			t.Fatalf("Fits(%v, %d) = %v", l, quota, got)
		}
	}
}

// P19.1, P19.2: where it is told by hand.
func TestCalls(t *testing.T) {
	for _, c := range []struct {
		l, a   string
		lines  int
		counts string
		quota  int
		over   string
	}{
		{"1 1 1^", "1", 2, "1=xx", 2, ""}, // The document's example.
		{"1 1 1^", "1", 2, "1=xx", 1, "1"},
		{"", "0", 0, "", -1, ""},
		{"0", "0", 1, "0=x", 1, ""},
		{"0", "0", 1, "0=x", 0, "0"},
		{"0", "0", 1, "0=x", -1, "0"},
		{"0^", "0", 0, "", 0, ""},
		{"0^", "0", 0, "", -1, ""},
		{"0^ 0^ 1", "0", 0, "1=x", -1, "1"},
		{"0^ 0^ 1", "1", 1, "1=x", 1, ""},
		{"0 1 2 1", "2", 1, "0=x 1=xx 2=x", 1, "1"},
		{"0 1 2 1", "3", 0, "0=x 1=xx 2=x", 0, "0 1 2"},
		{"1 1:0 1:0,1 1:1", "1:0", 1, "1=x 1:0=x 1:1=x 1:0,1=x", 0, "1 1:0 1:1 1:0,1"},
		{"1 1:0 1:0,1 1:1", "1:0,1", 1, "1=x 1:0=x 1:1=x 1:0,1=x", 1, ""},
		{"10 2 9:0 0:63 0:0,62 0:62", "0:62", 1, "0:62=x 0:0,62=x 0:63=x 2=x 9:0=x 10=x", 0, "0:62 0:0,62 0:63 2 9:0 10"},
		{"2 2 2 1 1 0 2 1:0^ 1^", "2", 4, "0=x 1=xx 2=xxxx", 1, "1 2"},
		{"2 2 2 1 1 0 2 1:0^ 1^", "1:0", 0, "0=x 1=xx 2=xxxx", 3, "2"},
		{"15:0,63 0 15:0,63", "15:0,63", 2, "0=x 15:0,63=xx", 1, "15:0,63"},
	} {
		l := items(c.l)
		if n := tally.Lines(l, of(c.a)); n != c.lines {
			t.Errorf("Lines(%s, %s) = %d", c.l, c.a, n)
		}
		if got := tally.Counts(l); !slices.Equal(got, counts(c.counts)) {
			t.Errorf("Counts(%s) = %v", c.l, got)
		}
		var over []api.Label
		for _, word := range strings.Fields(c.over) {
			over = append(over, of(word))
		}
		if got := tally.Over(l, c.quota); !slices.Equal(got, over) {
			t.Errorf("Over(%s, %d) = %v", c.l, c.quota, got)
		}
		if got := tally.Fits(l, c.quota); got != (c.over == "") {
			t.Errorf("Fits(%s, %d) = %v", c.l, c.quota, got)
		}
		check(t, l)
	}
}

// P19.1: Order goes by Level, and then by the number that the categories are; P5: that number goes up to 2^64 - 1.
func TestOrder(t *testing.T) {
	rising := []api.Label{
		{Level: math.MinInt}, {Level: math.MinInt, Cats: math.MaxUint64}, {Level: -1, Cats: 1}, {}, {Cats: 1}, {Cats: 2}, {Cats: 3}, {Cats: 1 << 31}, {Cats: 1 << 32},
		{Cats: 1<<63 - 1}, {Cats: 1 << 63}, {Cats: 1<<63 + 1}, {Cats: math.MaxUint64}, {Level: 1}, {Level: 1, Cats: 5}, {Level: 1, Cats: 1 << 63}, {Level: 2},
		{Level: 9}, {Level: 10}, {Level: 15, Cats: math.MaxUint64}, {Level: 16}, {Level: 1 << 32}, {Level: math.MaxInt}, {Level: math.MaxInt, Cats: 1},
	}
	for i, a := range rising {
		for j, b := range rising {
			want := 0
			switch {
			case i < j:
				want = -1
			case i > j:
				want = 1
			}
			if got := tally.Order(a, b); got != want {
				t.Errorf("Order(%v, %v) = %d", a, b, got)
			}
		}
	}
}

// P19.3: Order is a total order, and 0 just of the same label.
func TestOrderIsTotal(t *testing.T) {
	for _, a := range some() {
		for _, b := range some() {
			if got := tally.Order(a, b); got != -tally.Order(b, a) || (got == 0) != (a == b) || (got < 0) != ahead(a, b) {
				t.Errorf("Order(%v, %v) = %d", a, b, got)
			}
			for _, c := range some() {
				if tally.Order(a, b) <= 0 && tally.Order(b, c) <= 0 && tally.Order(a, c) > 0 {
					t.Errorf("Order of %v, %v, %v", a, b, c)
				}
			}
		}
	}
}

// P19.1 to P19.3: of all short rows.
func TestAll(t *testing.T) {
	for _, l := range every(4) {
		check(t, l)
		for _, a := range some() {
			if got := tally.Lines(l, a); got != lines(l, a) {
				t.Fatalf("Lines(%v, %v) = %d", l, a, got)
			}
		}
	}
}

// P19.2: Grows, of fewer, as many and more, of the label alone.
func TestGrows(t *testing.T) {
	for _, c := range []struct {
		was, is, a string
		want       int
	}{
		{"", "", "0", 0},
		{"", "0 0", "0", 2},
		{"0 0", "", "0", -2},
		{"0 1 0", "1 0", "0", -1},
		{"0 1 0", "1 0", "1", 0},
		{"1 0", "0 1 0 1 1", "1", 2},
		{"1 0", "0 1 0 1 1", "2", 0},
		{"1^", "1", "1", 1},
		{"1", "1^ 1^", "1", -1},
		{"1:0 1", "1:0 1:0 1:0,1", "1:0", 1},
	} {
		if got := tally.Grows(items(c.was), items(c.is), of(c.a)); got != c.want {
			t.Errorf("Grows(%s; %s; %s) = %d", c.was, c.is, c.a, got)
		}
	}
	for _, was := range every(2) {
		for _, is := range every(2) {
			for _, a := range some() {
				if got := tally.Grows(was, is, a); got != lines(is, a)-lines(was, a) {
					t.Fatalf("Grows(%v, %v, %v) = %d", was, is, a, got)
				}
			}
		}
	}
}

// P19.4: without the items that one may not read, and with more of them, the Lines of a label that one reads are the same.
func TestHiddenPlaysNoPart(t *testing.T) {
	for _, l := range every(4) {
		for _, o := range some() {
			var cut, more []api.Item
			hidden := api.Item{Label: of("3:5")}
			for _, one := range l {
				if label.Below(one.Label, o) {
					cut = append(cut, one)
				}
				more = append(more, hidden, one, hidden)
			}
			for _, a := range some() {
				if !label.Below(a, o) {
					continue
				}
				n := tally.Lines(l, a)
				if tally.Lines(cut, a) != n || tally.Lines(more, a) != n || tally.Grows(cut, more, a) != 0 {
					t.Fatalf("%v at %v: %d lines of %v", l, o, n, a)
				}
			}
		}
	}
}

// P1, P19.1: labels that are not right, and items that no call made, are counted, too.
func TestWrongItems(t *testing.T) {
	var l []api.Item
	for k, a := range some() {
		for range k + 1 {
			l = append(l, api.Item{ID: -k, Label: a, Line: api.Line{Text: "\n\xff", Bare: true}})
		}
		l = append(l, api.Item{Label: a, Anchor: true, Line: api.Line{Text: "x"}})
	}
	check(t, l)
	slices.Reverse(l)
	check(t, l)
	if got := tally.Counts(l); len(got) != len(some()) || got[0] != (api.Count{Label: api.Label{Level: -1, Cats: 2}, Lines: 6}) {
		t.Errorf("%v", got)
	}
	for _, a := range some() {
		if tally.Lines(nil, a) != 0 || tally.Grows(nil, nil, a) != 0 {
			t.Errorf("none of %v", a)
		}
	}
}

// P19.1, P6: of many labels the order is the same each time.
func TestMany(t *testing.T) {
	const n = 100000
	l := make([]api.Item, n)
	for i := range l {
		l[i].Label = api.Label{Level: i % 7, Cats: uint64(i % 1009)}
		l[i].Anchor = i%5 == 0
	}
	first := tally.Counts(l)
	if len(first) != 7*1009 || !slices.IsSortedFunc(first, func(a, b api.Count) int { return tally.Order(a.Label, b.Label) }) {
		t.Fatal(len(first))
	}
	sum := 0
	for _, c := range first {
		sum += c.Lines
	}
	if sum != n/5*4 {
		t.Fatal(sum)
	}
	for range 5 {
		if !slices.Equal(tally.Counts(l), first) {
			t.Fatal("not the same again")
		}
	}
}

// spoil writes into all of a list, and behind it.
func spoil[E any](l []E, with E) {
	l = l[:cap(l)]
	for i := range l {
		l[i] = with
	}
}

// P3, P6: what is handed in stays as it is, spare room too; what is answered is new, and nothing is kept.
func TestNothingIsShared(t *testing.T) {
	l := items("2 1 1^ 0 2 0:0 0 0 9")
	was := slices.Clone(l)
	all, over := tally.Counts(l[:6]), tally.Over(l[:6], 0)
	for range 3 {
		check(t, l[:6])
		tally.Grows(l[:6], l[:3], of("2"))
		spoil(tally.Counts(l[:6]), api.Count{Lines: 99})
		spoil(tally.Over(l[:6], 0), of("9"))
	}
	if !slices.Equal(l, was) {
		t.Fatalf("left: %v", l)
	}
	spoil(l, api.Item{Label: of("9")})
	if !slices.Equal(all, counts("0=x 0:0=x 1=x 2=xx")) || !slices.Equal(over, []api.Label{of("0"), of("0:0"), of("1"), of("2")}) {
		t.Errorf("kept: %v, %v", all, over)
	}
	if got := tally.Counts(l[:2]); !slices.Equal(got, counts("9=xx")) {
		t.Errorf("of others: %v", got)
	}
}

// FuzzItems is P1, P3, P19.1 to P19.3: of any items.
func FuzzItems(f *testing.F) {
	f.Add([]byte("\x00\x01\x00\x42\x81\xff"), 0, uint64(0), 1)
	f.Add([]byte{}, -1, uint64(math.MaxUint64), math.MinInt)
	f.Add([]byte("zzz\x00"), math.MaxInt, uint64(1), math.MaxInt)
	f.Fuzz(func(t *testing.T, b []byte, level int, cats uint64, quota int) {
		if len(b) > 200 {
			return
		}
		l := make([]api.Item, len(b))
		for i, c := range b {
			l[i] = api.Item{ID: i, Label: api.Label{Level: level + int(c&7), Cats: cats >> (c >> 3 & 7)}, Anchor: c > 200}
		}
		was := slices.Clone(l)
		check(t, l)
		if over := tally.Over(l, quota); tally.Fits(l, quota) != (len(over) == 0) {
			t.Errorf("%v above %d: %v", l, quota, over)
		}
		a, half := api.Label{Level: level, Cats: cats}, len(l)/2
		if got := tally.Grows(l[:half], l[half:], a); got != lines(l[half:], a)-lines(l[:half], a) {
			t.Errorf("%v, half by half: %d", l, got)
		}
		if !slices.Equal(l, was) {
			t.Errorf("left: %v", l)
		}
	})
}
