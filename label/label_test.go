package label_test

import (
	"math"
	"slices"
	"strings"
	"testing"

	"jalousie/api"
	"jalousie/label"
)

const allCats = 1<<64 - 1

// some is labels of few levels and categories, right ones and others.
func some() []api.Label {
	var l []api.Label
	for _, level := range []int{math.MinInt, -1, 0, 1, 7, api.MaxLevel, api.MaxLevel + 1, math.MaxInt} {
		for _, cats := range []uint64{0, 1, 2, 3, 5, 1 << 63, 1<<63 | 1, allCats &^ 1, allCats} {
			l = append(l, api.Label{Level: level, Cats: cats})
		}
	}
	return l
}

// rights is all of them that are right.
func rights() []api.Label {
	var l []api.Label
	for _, a := range some() {
		if a.Level >= 0 && a.Level <= 15 {
			l = append(l, a)
		}
	}
	return l
}

// has says it by itself, for what is held against it.
func has(a api.Label, c int) bool {
	return a.Cats>>c&1 == 1
}

// P2.1: Right.
func TestRight(t *testing.T) {
	for _, c := range []struct {
		level int
		want  bool
	}{
		{0, true}, {1, true}, {15, true}, {-1, false}, {16, false}, {math.MinInt, false}, {math.MaxInt, false},
	} {
		for _, cats := range []uint64{0, 1, allCats} {
			if got := label.Right(api.Label{Level: c.level, Cats: cats}); got != c.want {
				t.Errorf("Right of %d, %x: %v", c.level, cats, got)
			}
		}
	}
}

// P2.1: Below.
func TestBelow(t *testing.T) {
	for _, c := range []struct {
		a, b api.Label
		want bool
	}{
		{api.Label{}, api.Label{}, true},
		{api.Label{Level: 1}, api.Label{Level: 2}, true},
		{api.Label{Level: 2}, api.Label{Level: 1}, false},
		{api.Label{Level: 1, Cats: 1}, api.Label{Level: 2}, false},
		{api.Label{Level: 1, Cats: 1}, api.Label{Level: 1, Cats: 3}, true},
		{api.Label{Level: 1, Cats: 3}, api.Label{Level: 1, Cats: 1}, false},
		{api.Label{Level: 2, Cats: 1}, api.Label{Level: 1, Cats: 3}, false},
		{api.Label{Cats: 1}, api.Label{Cats: 2}, false},
		{api.Label{Cats: 1 << 63}, api.Label{Cats: 1}, false},
		{api.Label{Cats: 1 << 63}, api.Label{Cats: allCats}, true},
		{api.Label{Level: -1}, api.Label{}, true},
		{api.Label{Level: math.MinInt}, api.Label{Level: math.MaxInt}, true},
		{api.Label{Level: math.MaxInt}, api.Label{Level: math.MinInt}, false},
	} {
		if got := label.Below(c.a, c.b); got != c.want {
			t.Errorf("Below(%v, %v) = %v", c.a, c.b, got)
		}
	}
}

// P2.1: Join, Meet and Below of all pairs, category by category.
func TestOfPairs(t *testing.T) {
	for _, a := range some() {
		for _, b := range some() {
			j, m, below := label.Join(a, b), label.Meet(a, b), a.Level <= b.Level
			if j.Level != max(a.Level, b.Level) || m.Level != min(a.Level, b.Level) {
				t.Errorf("levels of %v and %v: %v, %v", a, b, j, m)
			}
			for c := range 64 {
				if has(j, c) != (has(a, c) || has(b, c)) || has(m, c) != (has(a, c) && has(b, c)) {
					t.Errorf("category %d of %v and %v: %v, %v", c, a, b, j, m)
				}
				below = below && (!has(a, c) || has(b, c))
			}
			if label.Below(a, b) != below {
				t.Errorf("Below(%v, %v) is not %v", a, b, below)
			}
		}
	}
}

// P2.1: Top.
func TestTop(t *testing.T) {
	if got := label.Top(); got != (api.Label{Level: 15, Cats: allCats}) {
		t.Errorf("Top() = %v", got)
	}
}

// P2.2: Cats.
func TestCats(t *testing.T) {
	for _, c := range []struct {
		cats uint64
		want []int
	}{
		{0, nil}, {1, []int{0}}, {1<<7 | 1, []int{0, 7}}, {1 << 63, []int{63}}, {1<<63 | 1<<62 | 2, []int{1, 62, 63}},
	} {
		for _, level := range []int{0, -1, 99} {
			if got := label.Cats(api.Label{Level: level, Cats: c.cats}); !slices.Equal(got, c.want) {
				t.Errorf("Cats of %x: %v", c.cats, got)
			}
		}
	}
	all := label.Cats(label.Top())
	if len(all) != 64 {
		t.Fatalf("Cats of Top: %v", all)
	}
	for i, c := range all {
		if i != c {
			t.Errorf("Cats of Top: %d at %d", c, i)
		}
	}
}

// P2.2: Of what may be.
func TestOf(t *testing.T) {
	for _, c := range []struct {
		level int
		cats  []int
		want  api.Label
	}{
		{0, nil, api.Label{}},
		{15, nil, api.Label{Level: 15}},
		{3, []int{0, 7}, api.Label{Level: 3, Cats: 1<<7 | 1}},
		{3, []int{7, 0}, api.Label{Level: 3, Cats: 1<<7 | 1}},
		{3, []int{7, 0, 7, 7}, api.Label{Level: 3, Cats: 1<<7 | 1}},
		{0, []int{63}, api.Label{Cats: 1 << 63}},
	} {
		if got, e := label.Of(c.level, c.cats...); e != api.OK || got != c.want {
			t.Errorf("Of(%d, %v) = %v, %d", c.level, c.cats, got, e)
		}
	}
	if got, e := label.Of(15, label.Cats(label.Top())...); e != api.OK || got != label.Top() {
		t.Errorf("Of all: %v, %d", got, e)
	}
}

// P2.2, P2, P5: Of what may not be.
func TestOfOthers(t *testing.T) {
	for _, c := range []struct {
		level int
		cats  []int
	}{
		{-1, nil}, {16, nil}, {math.MinInt, nil}, {math.MaxInt, nil}, {16, []int{1}},
		{0, []int{-1}}, {0, []int{64}}, {0, []int{1, 64}}, {0, []int{64, 1}}, {0, []int{1, -1, 2}},
		{0, []int{math.MinInt}}, {0, []int{math.MaxInt}}, {0, []int{128}}, {-1, []int{-1}},
	} {
		if got, e := label.Of(c.level, c.cats...); e != api.ErrArg || got != (api.Label{}) {
			t.Errorf("Of(%d, %v) = %v, %d", c.level, c.cats, got, e)
		}
	}
}

// P2.3: Print.
func TestPrint(t *testing.T) {
	for _, c := range []struct {
		a    api.Label
		want string
	}{
		{api.Label{}, "0"},
		{api.Label{Level: 15}, "15"},
		{api.Label{Level: 3, Cats: 1<<7 | 1}, "3:0,7"},
		{api.Label{Cats: 1 << 63}, "0:63"},
		{api.Label{Level: 16}, "16"},
		{api.Label{Level: api.MaxNum, Cats: 2}, "2147483647:1"},
		{api.Label{Level: -1}, "?"},
		{api.Label{Level: -1, Cats: 6}, "?:1,2"},
		{api.Label{Level: math.MinInt}, "?"},
	} {
		if got := label.Print(c.a); got != c.want {
			t.Errorf("Print(%v) = %q", c.a, got)
		}
	}
	if math.MaxInt > api.MaxNum {
		if got := label.Print(api.Label{Level: math.MaxInt, Cats: 1}); got != "?:0" {
			t.Errorf("Print of too great a level: %q", got)
		}
	}
}

// P2.3: Parse of a label's text.
func TestParse(t *testing.T) {
	for _, c := range []struct {
		s    string
		want api.Label
	}{
		{"0", api.Label{}}, {"15", api.Label{Level: 15}}, {"3:0,7", api.Label{Level: 3, Cats: 1<<7 | 1}},
		{"0:63", api.Label{Cats: 1 << 63}}, {"7:9,10,11", api.Label{Level: 7, Cats: 7 << 9}},
	} {
		if got, is := label.Parse(c.s); !is || got != c.want {
			t.Errorf("Parse(%q) = %v, %v", c.s, got, is)
		}
	}
}

// P2.3, P2: Parse of other texts.
func TestParseOthers(t *testing.T) {
	for _, s := range []string{
		"", " ", "?", "a", "-1", "+1", "16", "99", "01", "00", "1 ", " 1", "1\n", "2147483647", "2147483648",
		":", "1:", ":1", "1::2", "1:2:3", "1:2,", "1:,2", "1:2,,3", "1:,", "1,2", "1;2", "1: 2", "1:2, 3",
		"3:7,0", "1:2,2", "1:0,0", "1:2,3,2", "1:64", "1:0,64", "1:02", "1:-1", "1:?", "?:1", "16:1", "1:18446744073709551617",
		"1:4294967296", "1:65", "\x00", "\xff", "1:\xff", "1:2\x00",
		"1:" + strings.Repeat("1,", 5000) + "1", strings.Repeat(":", 5000), strings.Repeat("1", 5000),
	} {
		if got, is := label.Parse(s); is || got != (api.Label{}) {
			t.Errorf("Parse(%.40q) = %v, %v", s, got, is)
		}
	}
}

// P2.4: Below is an order.
func TestBelowIsAnOrder(t *testing.T) {
	for _, a := range some() {
		if !label.Below(a, a) {
			t.Errorf("%v is not below itself", a)
		}
		for _, b := range some() {
			if label.Below(a, b) && label.Below(b, a) && a != b {
				t.Errorf("%v and %v are below each other", a, b)
			}
			for _, c := range some() {
				if label.Below(a, b) && label.Below(b, c) && !label.Below(a, c) {
					t.Errorf("%v, %v, %v: not below", a, b, c)
				}
			}
		}
	}
}

// P2.4: Join is the least label above both, Meet the greatest below both.
func TestJoinAndMeetAreNearest(t *testing.T) {
	for _, a := range some() {
		for _, b := range some() {
			j, m := label.Join(a, b), label.Meet(a, b)
			if !label.Below(a, j) || !label.Below(b, j) || !label.Below(m, a) || !label.Below(m, b) {
				t.Errorf("%v, %v: Join %v, Meet %v", a, b, j, m)
			}
			for _, c := range some() {
				if label.Below(a, c) && label.Below(b, c) && !label.Below(j, c) {
					t.Errorf("%v, %v: %v is less than their Join", a, b, c)
				}
				if label.Below(c, a) && label.Below(c, b) && !label.Below(c, m) {
					t.Errorf("%v, %v: %v is more than their Meet", a, b, c)
				}
			}
		}
	}
}

// P2.4: Bottom is below all that are right, and these are below Top; others are not.
func TestBottomAndTop(t *testing.T) {
	for _, a := range rights() {
		if !label.Below(api.Label{}, a) || !label.Below(a, label.Top()) {
			t.Errorf("%v is not between Bottom and Top", a)
		}
	}
	for _, a := range some() {
		if between := label.Below(api.Label{}, a) && label.Below(a, label.Top()); between != label.Right(a) {
			t.Errorf("%v between Bottom and Top: %v", a, between)
		}
	}
}

// P2.5: Parse of Print is the label, if it is right.
func TestParseOfPrint(t *testing.T) {
	l := some()
	for level := range api.MaxLevel + 1 {
		for c := range api.MaxCat + 1 {
			l = append(l, api.Label{Level: level, Cats: 1 << c}, api.Label{Level: level, Cats: allCats >> c})
		}
	}
	for _, a := range l {
		got, is := label.Parse(label.Print(a))
		if label.Right(a) && (!is || got != a) || !label.Right(a) && is {
			t.Errorf("Parse of Print(%v) = %v, %v", a, got, is)
		}
	}
}

// P2.5: no two labels that are right have one text.
func TestPrintTellsApart(t *testing.T) {
	seen := map[string]api.Label{}
	for level := range api.MaxLevel + 1 {
		for cats := range uint64(1 << 13) {
			a := api.Label{Level: level, Cats: cats}
			s := label.Print(a)
			if b, is := seen[s]; is {
				t.Fatalf("%v and %v are both %q", a, b, s)
			}
			seen[s] = a
		}
	}
}

// P3: what is handed in stays as it is, spare room too, and is not kept.
func TestArgumentsStay(t *testing.T) {
	cats := []int{7, 0, 7, 63}
	a, _ := label.Of(1, cats[:3]...)
	if !slices.Equal(cats, []int{7, 0, 7, 63}) {
		t.Errorf("Of left %v", cats)
	}
	cats[0] = 5
	if label.Print(a) != "1:0,7" {
		t.Errorf("Of kept what was handed in: %v", a)
	}
}

// P3: what is answered is new memory.
func TestAnswersAreNew(t *testing.T) {
	first, second := label.Cats(api.Label{Cats: 3}), label.Cats(api.Label{Cats: 3})
	first[0] = 9
	if !slices.Equal(second, []int{0, 1}) {
		t.Errorf("Cats: %v", second)
	}
}

// P1, P2.5, P6: any text is answered, twice the same, and what is parsed is printed so.
func FuzzParse(f *testing.F) {
	for _, s := range []string{"", "0", "15", "3:0,7", "3:7,0", "1:2,", "16", "\xff"} {
		f.Add(s)
	}
	f.Fuzz(func(t *testing.T, s string) {
		a, is := label.Parse(s)
		b, again := label.Parse(s)
		if a != b || is != again {
			t.Errorf("%q: %v, %v, and then %v, %v", s, a, is, b, again)
		}
		if is && (!label.Right(a) || label.Print(a) != s) || !is && a != (api.Label{}) {
			t.Errorf("%q: %v, %v", s, a, is)
		}
	})
}
