package intern_test

import (
	"math"
	"slices"
	"strings"
	"testing"

	"jalousie/api"
	"jalousie/intern"
)

// row is lines of which none is Bare, a letter each.
func row(letters string) []api.Line {
	var l []api.Line
	for _, s := range strings.Split(letters, "") {
		l = append(l, api.Line{Text: s})
	}
	return l
}

// every is all rows of up to n of some elements.
func every[E any](n int, some ...E) [][]E {
	all := [][]E{nil}
	last := all
	for range n {
		var next [][]E
		for _, l := range last {
			for _, one := range some {
				next = append(next, append(slices.Clone(l), one))
			}
		}
		all = append(all, next...)
		last = next
	}
	return all
}

func sameRows(a, b [][]int) bool {
	return slices.EqualFunc(a, b, slices.Equal[[]int])
}

// P6.1: Numbers.
func TestNumbers(t *testing.T) {
	x, bare := api.Line{Text: "x"}, api.Line{Text: "x", Bare: true}
	for _, c := range []struct {
		what  string
		lists [][]api.Line
		want  [][]int
	}{
		{"no list", nil, nil},
		{"an empty list", [][]api.Line{nil}, [][]int{nil}},
		{"empty lists", [][]api.Line{nil, {}, nil}, [][]int{nil, nil, nil}},
		{"one list", [][]api.Line{row("abcab")}, [][]int{{0, 1, 2, 0, 1}}},
		{"the document's", [][]api.Line{row("aba"), row("cb")}, [][]int{{0, 1, 0}, {2, 1}}},
		{"alike lists", [][]api.Line{row("ab"), row("ab")}, [][]int{{0, 1}, {0, 1}}},
		{"the other way round", [][]api.Line{row("ab"), row("ba")}, [][]int{{0, 1}, {1, 0}}},
		{"nothing first", [][]api.Line{nil, row("ab"), nil, row("cb")}, [][]int{nil, {0, 1}, nil, {2, 1}}},
		{"three lists", [][]api.Line{row("c"), row("bc"), row("abcd")}, [][]int{{0}, {1, 0}, {2, 1, 0, 3}}},
		{"the order is not the letters'", [][]api.Line{row("zay")}, [][]int{{0, 1, 2}}},
		{"all alike", [][]api.Line{row("aaa"), row("a")}, [][]int{{0, 0, 0}, {0}}},
		{"behind lines that were there", [][]api.Line{row("aab")}, [][]int{{0, 0, 1}}},
		{"Bare or not", [][]api.Line{{x, bare, x, bare}, {bare, x}}, [][]int{{0, 1, 0, 1}, {1, 0}}},
		{"Bare first", [][]api.Line{{bare}, {x}, {bare}}, [][]int{{0}, {1}, {0}}},
		{"empty lines", [][]api.Line{{{}, {Bare: true}, {}}}, [][]int{{0, 1, 0}}},
		{"any bytes", [][]api.Line{{{Text: "\xff"}, {Text: "\xfe"}, {Text: "\n"}, {Text: "\x00"}, {Text: ""}, {Text: "\ufffd"}, {Text: "\xff"}}}, [][]int{{0, 1, 2, 3, 4, 5, 0}}},
		{"one begins as another", [][]api.Line{{{Text: "ab"}, {Text: "a"}, {Text: "abc"}, {Text: "a "}, {Text: "A"}}}, [][]int{{0, 1, 2, 3, 4}}},
	} {
		if got := intern.Numbers(c.lists...); !sameRows(got, c.want) {
			t.Errorf("%s: %v", c.what, got)
		}
	}
	if got := intern.Numbers(); len(got) != 0 {
		t.Errorf("of nothing: %v", got)
	}
}

// P6.1, P6.3: Numbers of all pairs of short lists.
func TestNumbersOfAll(t *testing.T) {
	x, bare, y := api.Line{Text: "x"}, api.Line{Text: "x", Bare: true}, api.Line{Text: "y"}
	all := every(3, x, bare, y)
	for _, a := range all {
		for _, b := range all {
			checkNumbers(t, a, b)
			checkNumbers(t, a, nil, b, a)
		}
	}
}

// checkNumbers is P6.1 and P6.3, told line by line.
func checkNumbers(t *testing.T, lists ...[]api.Line) {
	t.Helper()
	got := intern.Numbers(lists...)
	if len(got) != len(lists) {
		t.Fatalf("Numbers(%v) = %v", lists, got)
	}
	var unlike []api.Line
	for k, l := range lists {
		var want []int
		for _, one := range l {
			if !slices.Contains(unlike, one) {
				unlike = append(unlike, one)
			}
			want = append(want, slices.Index(unlike, one))
		}
		if !slices.Equal(got[k], want) {
			t.Fatalf("Numbers(%v) = %v", lists, got)
		}
	}
	checkFirsts(t, slices.Concat(lists...), slices.Concat(got...), len(unlike))
}

// checkFirsts is P6.3: lines are alike just if their numbers are; each of 0, 1, .. comes up, first in this order.
func checkFirsts(t *testing.T, l []api.Line, numbers []int, unlike int) {
	t.Helper()
	next := 0
	for i, n := range numbers {
		if n > next || n < 0 {
			t.Fatalf("%v: %v", l, numbers)
		}
		next = max(next, n+1)
		for j := range i {
			if (numbers[j] == n) != (l[j] == l[i]) {
				t.Fatalf("%v: %v", l, numbers)
			}
		}
	}
	if next != unlike {
		t.Fatalf("%v: %v, of %d unlike ones", l, numbers, unlike)
	}
}

// P6.1: of many lines, all unlike, and then once more from behind.
func TestNumbersOfMany(t *testing.T) {
	var l []api.Line
	for i := range 20000 {
		l = append(l, api.Line{Text: strings.Repeat("x", i%100) + string(rune('a'+i/200)), Bare: i/100%2 == 1})
	}
	back := slices.Clone(l)
	slices.Reverse(back)
	rows := intern.Numbers(l, back)
	for i := range l {
		if rows[0][i] != i || rows[1][len(l)-1-i] != i {
			t.Fatalf("line %d: %d, %d", i, rows[0][i], rows[1][len(l)-1-i])
		}
	}
}

// P6.2: Ends.
func TestEnds(t *testing.T) {
	for _, c := range []struct {
		a, b       []int
		begin, end int
	}{
		{nil, nil, 0, 0},
		{nil, []int{1}, 0, 0},
		{[]int{1}, nil, 0, 0},
		{[]int{1}, []int{1}, 1, 0},
		{[]int{1}, []int{2}, 0, 0},
		{[]int{1, 2, 3, 1}, []int{1, 3, 1}, 1, 2},
		{[]int{1, 2}, []int{1, 2}, 2, 0},
		{[]int{1, 1}, []int{1}, 1, 0},
		{[]int{1}, []int{1, 1, 1}, 1, 0},
		{[]int{1, 2, 3}, []int{4, 2, 3}, 0, 2},
		{[]int{1, 2, 3}, []int{1, 2, 4}, 2, 0},
		{[]int{1, 2, 3}, []int{1, 4, 3}, 1, 1},
		{[]int{3}, []int{1, 2, 3}, 0, 1},
		{[]int{1, 2, 1}, []int{1, 2, 1, 2, 1}, 3, 0},
		{[]int{1, 2, 1, 2, 1}, []int{1, 1}, 1, 1},
		{[]int{1, 2, 3}, []int{3, 2, 1}, 0, 0},
		{[]int{math.MinInt, 0, math.MaxInt}, []int{math.MinInt, math.MaxInt}, 1, 1},
		{[]int{-1, 5}, []int{1, 5}, 0, 1},
	} {
		if begin, end := intern.Ends(c.a, c.b); begin != c.begin || end != c.end {
			t.Errorf("Ends(%v, %v) = %d, %d", c.a, c.b, begin, end)
		}
	}
}

// P6.2: Counts.
func TestCounts(t *testing.T) {
	for _, c := range []struct {
		l    []int
		want [][2]int
	}{
		{nil, nil},
		{[]int{}, nil},
		{[]int{0}, [][2]int{{0, 1}}},
		{[]int{5, 2, 5}, [][2]int{{2, 1}, {5, 2}}},
		{[]int{3, 3, 3}, [][2]int{{3, 3}}},
		{[]int{10, 9, 1, 9}, [][2]int{{1, 1}, {9, 2}, {10, 1}}},
		{[]int{0, -1, 1, -1}, [][2]int{{-1, 2}, {0, 1}, {1, 1}}},
		{[]int{math.MaxInt, math.MinInt, 0, math.MinInt, math.MaxInt, math.MinInt}, [][2]int{{math.MinInt, 3}, {0, 1}, {math.MaxInt, 2}}},
	} {
		if got := intern.Counts(c.l); !slices.Equal(got, c.want) {
			t.Errorf("Counts(%v) = %v", c.l, got)
		}
	}
}

// P6.2: Once.
func TestOnce(t *testing.T) {
	for _, c := range []struct {
		a, b []int
		want [][2]int
	}{
		{nil, nil, nil},
		{[]int{1}, nil, nil},
		{nil, []int{1}, nil},
		{[]int{1}, []int{2}, nil},
		{[]int{1}, []int{1}, [][2]int{{0, 0}}},
		{[]int{0}, []int{0}, [][2]int{{0, 0}}},
		{[]int{1, 2}, []int{2, 1}, [][2]int{{0, 1}, {1, 0}}},
		{[]int{1, 2, 3, 3}, []int{3, 2, 1, 1}, [][2]int{{1, 1}}},
		{[]int{1, 1}, []int{1}, nil},
		{[]int{1}, []int{1, 1}, nil},
		{[]int{1, 1}, []int{1, 1}, nil},
		{[]int{1, 2, 1, 1}, []int{2}, [][2]int{{1, 0}}},
		{[]int{9, 5, 7}, []int{7, 8, 9, 8, 5}, [][2]int{{0, 2}, {1, 4}, {2, 0}}},
		{[]int{math.MaxInt, -1, math.MinInt}, []int{math.MinInt, 1, math.MaxInt}, [][2]int{{0, 2}, {2, 0}}},
	} {
		if got := intern.Once(c.a, c.b); !slices.Equal(got, c.want) {
			t.Errorf("Once(%v, %v) = %v", c.a, c.b, got)
		}
	}
}

// P6.2, P6.4: Ends, Counts and Once of all short rows.
func TestAllShortRows(t *testing.T) {
	all := every(5, 0, 1, -7)
	for _, a := range all {
		checkCounts(t, a)
		for _, b := range all {
			checkEnds(t, a, b)
			checkOnce(t, a, b)
		}
	}
}

func times(l []int, n int) int {
	k := 0
	for _, m := range l {
		if m == n {
			k++
		}
	}
	return k
}

// checkEnds is P6.2 of Ends: as many as that are alike, and no more.
func checkEnds(t *testing.T, a, b []int) {
	t.Helper()
	begin, end := intern.Ends(a, b)
	if begin < 0 || end < 0 || begin+end > min(len(a), len(b)) {
		t.Fatalf("Ends(%v, %v) = %d, %d", a, b, begin, end)
	}
	x, y := a[begin:len(a)-end], b[begin:len(b)-end]
	is := slices.Equal(a[:begin], b[:begin]) && slices.Equal(a[len(a)-end:], b[len(b)-end:])
	more := len(x) > 0 && len(y) > 0 && (x[0] == y[0] || x[len(x)-1] == y[len(y)-1])
	// Of what both begin with alike none may be told as an end.
	if begin < min(len(a), len(b)) && a[begin] == b[begin] {
		more = true
	}
	if !is || more {
		t.Errorf("Ends(%v, %v) = %d, %d", a, b, begin, end)
	}
}

// checkCounts is P6.2 and P6.4 of Counts.
func checkCounts(t *testing.T, l []int) {
	t.Helper()
	counts := intern.Counts(l)
	sum := 0
	for i, c := range counts {
		sum += c[1]
		if c[1] == 0 || c[1] != times(l, c[0]) || i > 0 && counts[i-1][0] >= c[0] {
			t.Errorf("Counts(%v) = %v", l, counts)
		}
	}
	if sum != len(l) {
		t.Errorf("Counts(%v) = %v, together %d", l, counts, sum)
	}
}

// checkOnce is P6.2 of Once.
func checkOnce(t *testing.T, a, b []int) {
	t.Helper()
	var want [][2]int
	for at, n := range a {
		if times(a, n) == 1 && times(b, n) == 1 {
			want = append(want, [2]int{at, slices.Index(b, n)})
		}
	}
	if got := intern.Once(a, b); !slices.Equal(got, want) {
		t.Errorf("Once(%v, %v) = %v", a, b, got)
	}
}

// P3: what is handed in stays as it is, spare room too.
func TestArgumentsStay(t *testing.T) {
	l := row("babzz")
	lists := [][]api.Line{l[:3], l[:2], nil}
	intern.Numbers(lists[:2]...)
	if !slices.Equal(l, row("babzz")) || len(lists[0]) != 3 || len(lists[1]) != 2 || lists[2] != nil {
		t.Errorf("Numbers left %v", lists)
	}
	a, b := []int{3, 1, 3, 9, 8}, []int{1, 3, 9, 2}
	intern.Counts(a[:3])
	intern.Ends(a[:3], b[:2])
	intern.Once(a[:3], b[:2])
	if !slices.Equal(a, []int{3, 1, 3, 9, 8}) || !slices.Equal(b, []int{1, 3, 9, 2}) {
		t.Errorf("left: %v, %v", a, b)
	}
}

// P3: what is answered is new memory, and no two lists of one answer lie in each other.
func TestAnswersAreNew(t *testing.T) {
	l := row("ab")
	one, two := intern.Numbers(l, l, l[:1]), intern.Numbers(l, l, l[:1])
	one[0][0], one[2] = 9, nil
	_ = append(one[0], 7, 7, 7)
	_ = append(one[1][:1], 8)
	if !slices.Equal(one[1], []int{0, 8}) || !sameRows(two, [][]int{{0, 1}, {0, 1}, {0}}) {
		t.Errorf("Numbers: %v, %v", one, two)
	}
	n := []int{4, 5}
	c, d := intern.Counts(n), intern.Counts(n)
	p, q := intern.Once(n, n), intern.Once(n, n)
	c[0], p[0] = [2]int{9, 9}, [2]int{9, 9}
	if !slices.Equal(n, []int{4, 5}) || !slices.Equal(d, [][2]int{{4, 1}, {5, 1}}) || !slices.Equal(q, [][2]int{{0, 0}, {1, 1}}) {
		t.Errorf("Counts and Once: %v, %v, %v", n, d, q)
	}
}

// P6: what came up in one call plays no part in the next one.
func TestNothingIsKept(t *testing.T) {
	for _, s := range []string{"ab", "ba", "cab", "ba"} {
		rows := intern.Numbers(row(s))
		for i, n := range rows[0] {
			if n != i {
				t.Errorf("%s: %v", s, rows)
			}
		}
	}
}

// P1, P6.1 to P6.4: whatever is handed in is answered, twice the same.
func FuzzRows(f *testing.F) {
	f.Add("a\nb\na\x00b\nc", 2, 40)
	f.Add("", 0, 0)
	f.Add("\x00\x00\x00", -1, 3)
	f.Add("\xff\n\xff!", math.MinInt, math.MaxInt)
	f.Fuzz(func(t *testing.T, s string, factor, cut int) {
		if len(s) > 500 {
			return
		}
		var lists [][]api.Line
		for _, part := range strings.Split(s, "\x00") {
			var l []api.Line
			for _, one := range strings.Split(part, "\n") {
				l = append(l, api.Line{Text: strings.TrimSuffix(one, "!"), Bare: strings.HasSuffix(one, "!")})
			}
			lists = append(lists, l)
		}
		checkNumbers(t, lists...)
		if !sameRows(intern.Numbers(lists...), intern.Numbers(lists...)) {
			t.Errorf("Numbers(%v) twice", lists)
		}
		var a []int
		for i := range len(s) {
			a = append(a, int(s[i])*factor)
		}
		b := slices.Clone(a[min(len(a), max(0, cut)):])
		was := slices.Clone(a)
		checkCounts(t, a)
		checkEnds(t, a, b)
		checkOnce(t, a, b)
		if !slices.Equal(a, was) {
			t.Errorf("left: %v, not %v", a, was)
		}
	})
}
