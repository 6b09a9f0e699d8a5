package myers_test

import (
	"math"
	"slices"
	"testing"

	"jalousie/api"
	"jalousie/myers"
)

// row is numbers, a letter each.
func row(letters string) []int {
	var l []int
	for i := range len(letters) {
		l = append(l, int(letters[i]))
	}
	return l
}

// every is all rows of up to n of some numbers.
func every(n int, some ...int) [][]int {
	all := [][]int{nil}
	last := all
	for range n {
		var next [][]int
		for _, l := range last {
			for _, one := range some {
				next = append(next, append(slices.Clone(l), one))
			}
		}
		all = append(all, next...)
		last = next
	}
	return all
}

// told is steps, a letter each.
func told(steps []api.Step) string {
	s := ""
	for _, do := range steps {
		switch do {
		case api.Keep:
			s += "K"
		case api.Out:
			s += "O"
		case api.In:
			s += "I"
		default:
			s += "?"
		}
	}
	return s
}

// left is the distance of what is left behind each two places, reckoned place by place.
func left(a, b []int) [][]int {
	t := make([][]int, len(a)+1)
	for i := len(a); i >= 0; i-- {
		t[i] = make([]int, len(b)+1)
		for j := len(b); j >= 0; j-- {
			switch {
			case i == len(a):
				t[i][j] = len(b) - j
			case j == len(b):
				t[i][j] = len(a) - i
			case a[i] == b[j]:
				t[i][j] = t[i+1][j+1]
			default:
				t[i][j] = 1 + min(t[i+1][j], t[i][j+1])
			}
		}
	}
	return t
}

// way is the document's words, one by one.
func way(a, b []int, t [][]int) ([]api.Step, [][2]int) {
	var steps []api.Step
	var pairs [][2]int
	i, j := 0, 0
	for i < len(a) || j < len(b) {
		if i < len(a) && j < len(b) && a[i] == b[j] {
			steps, pairs = append(steps, api.Keep), append(pairs, [2]int{i, j})
			i, j = i+1, j+1
		} else if i < len(a) && t[i+1][j] == t[i][j]-1 {
			steps = append(steps, api.Out)
			i++
		} else {
			steps = append(steps, api.In)
			j++
		}
	}
	return steps, pairs
}

// longest is how long a row can be that is a row of numbers of both: all rows of numbers of a are tried.
func longest(a, b []int) int {
	most := 0
	for chosen := range 1 << len(a) {
		n, j := 0, 0
		for i := range a {
			if chosen>>i&1 == 0 {
				continue
			}
			for j < len(b) && b[j] != a[i] {
				j++
			}
			if j == len(b) {
				n = -1
				break
			}
			n, j = n+1, j+1
		}
		most = max(most, n)
	}
	return most
}

// do is the row that steps make of a, with what is put in taken of b; false, if they can't be done or leave something.
func do(steps []api.Step, a, b []int) ([]int, bool) {
	var made []int
	i, j := 0, 0
	for _, step := range steps {
		if step != api.In && i == len(a) || step != api.Out && j == len(b) {
			return nil, false
		}
		switch step {
		case api.Keep:
			made = append(made, a[i])
			i, j = i+1, j+1
		case api.Out:
			i++
		case api.In:
			made = append(made, b[j])
			j++
		default:
			return nil, false
		}
	}
	return made, i == len(a) && j == len(b)
}

// check is P7.1 and P7.5 of two rows that are not too long.
func check(t *testing.T, a, b []int) {
	t.Helper()
	table := left(a, b)
	wantSteps, wantPairs := way(a, b, table)
	if n := myers.Distance(a, b); n != table[0][0] {
		t.Fatalf("Distance(%v, %v) = %d, not %d", a, b, n, table[0][0])
	}
	steps := myers.Steps(a, b)
	if !slices.Equal(steps, wantSteps) {
		t.Fatalf("Steps(%v, %v) = %s, not %s", a, b, told(steps), told(wantSteps))
	}
	if pairs := myers.Pairs(a, b); !slices.Equal(pairs, wantPairs) {
		t.Fatalf("Pairs(%v, %v) = %v, not %v", a, b, pairs, wantPairs)
	}
	if made, is := do(steps, a, b); !is || !slices.Equal(made, b) {
		t.Fatalf("Steps(%v, %v) = %s: make %v", a, b, told(steps), made)
	}
}

// P7.1: the way, where it is told by hand.
func TestWay(t *testing.T) {
	for _, c := range []struct {
		a, b, steps string
		distance    int
		pairs       [][2]int
	}{
		{"", "", "", 0, nil},
		{"a", "", "O", 1, nil},
		{"", "a", "I", 1, nil},
		{"ab", "", "OO", 2, nil},
		{"", "ab", "II", 2, nil},
		{"a", "a", "K", 0, [][2]int{{0, 0}}},
		{"a", "b", "OI", 2, nil},
		{"abc", "abc", "KKK", 0, [][2]int{{0, 0}, {1, 1}, {2, 2}}},
		{"123", "24", "OKOI", 3, [][2]int{{1, 0}}},
		{"ab", "ba", "OKI", 2, [][2]int{{1, 0}}},
		{"ba", "ab", "OKI", 2, [][2]int{{1, 0}}},
		{"abc", "xbz", "OIKOI", 4, [][2]int{{1, 1}}},
		{"ab", "xy", "OOII", 4, nil},
		{"xaybz", "ab", "OKOKO", 3, [][2]int{{1, 0}, {3, 1}}},
		{"ab", "xaybz", "IKIKI", 3, [][2]int{{0, 1}, {1, 3}}},
		// What can be kept is kept, though it might be later, too.
		{"aa", "a", "KO", 1, [][2]int{{0, 0}}},
		{"a", "aa", "KI", 1, [][2]int{{0, 0}}},
		{"aba", "a", "KOO", 2, [][2]int{{0, 0}}},
		// Out goes ahead of In, where both are as near.
		{"xay", "yax", "OOKII", 4, [][2]int{{2, 0}}},
		{"abcabba", "cbabac", "OOKOKIKKI", 5, [][2]int{{2, 0}, {4, 1}, {5, 3}, {6, 4}}},
		// In, where Out is no nearer.
		{"bc", "abc", "IKK", 1, [][2]int{{0, 1}, {1, 2}}},
		{"cab", "abc", "OKKI", 2, [][2]int{{1, 0}, {2, 1}}},
		{"abab", "baba", "OKKKI", 2, [][2]int{{1, 0}, {2, 1}, {3, 2}}},
	} {
		a, b := row(c.a), row(c.b)
		if n := myers.Distance(a, b); n != c.distance {
			t.Errorf("Distance(%s, %s) = %d", c.a, c.b, n)
		}
		if steps := told(myers.Steps(a, b)); steps != c.steps {
			t.Errorf("Steps(%s, %s) = %s", c.a, c.b, steps)
		}
		if pairs := myers.Pairs(a, b); !slices.Equal(pairs, c.pairs) {
			t.Errorf("Pairs(%s, %s) = %v", c.a, c.b, pairs)
		}
		check(t, a, b)
	}
}

// P7.1: whatever the numbers are, they are the same or not.
func TestNumbersOfAnySize(t *testing.T) {
	a := []int{math.MinInt, 0, math.MaxInt, -1, math.MinInt}
	b := []int{math.MaxInt, -1, 1, math.MinInt, math.MinInt + 1}
	check(t, a, b)
	check(t, b, a)
	if s := told(myers.Steps(a, b)); s != "OOKKIKI" {
		t.Errorf("Steps(%v, %v) = %s", a, b, s)
	}
}

// P7.1, P7.2, P7.5: all pairs of short rows.
func TestAllShortRows(t *testing.T) {
	all := every(5, 0, 1, -7)
	for _, a := range all {
		for _, b := range all {
			check(t, a, b)
			most := longest(a, b)
			if n := len(myers.Pairs(a, b)); n != most {
				t.Fatalf("Pairs(%v, %v): %d, not %d", a, b, n, most)
			}
			if n := myers.Distance(a, b); n != len(a)+len(b)-2*most {
				t.Fatalf("Distance(%v, %v) = %d, and %d are kept", a, b, n, most)
			}
		}
	}
}

// P7.3: a distance is 0 of the same alone, the same both ways, and not above that over a third row.
func TestDistances(t *testing.T) {
	all := every(3, 0, 1, 2)
	for _, a := range all {
		for _, b := range all {
			n := myers.Distance(a, b)
			if n < 0 || (n == 0) != slices.Equal(a, b) || n != myers.Distance(b, a) {
				t.Fatalf("Distance(%v, %v) = %d, back %d", a, b, n, myers.Distance(b, a))
			}
			for _, c := range all {
				if n > myers.Distance(a, c)+myers.Distance(c, b) {
					t.Fatalf("Distance(%v, %v) = %d, less over %v", a, b, n, c)
				}
			}
		}
	}
}

// P7.4: what both begin and end with alike plays no part.
func TestEndsPlayNoPart(t *testing.T) {
	ends := every(2, 0, 1)
	all := every(3, 0, 1)
	for _, a := range all {
		for _, b := range all {
			n := myers.Distance(a, b)
			for _, begin := range ends {
				for _, end := range ends {
					x, y := slices.Concat(begin, a, end), slices.Concat(begin, b, end)
					if m := myers.Distance(x, y); m != n {
						t.Fatalf("Distance(%v, %v) = %d, but Distance(%v, %v) = %d", x, y, m, a, b, n)
					}
				}
			}
		}
	}
}

// some is n numbers below a bound, by a short rule.
func some(seed uint32, n, bound int) []int {
	l := make([]int, n)
	for i := range l {
		seed = seed*1664525 + 1013904223
		l[i] = int(seed>>8) % bound
	}
	return l
}

// P7.1, P7.5: rows of all lengths up to the limit, of few and of many numbers.
func TestLongerRows(t *testing.T) {
	seed := uint32(1)
	for _, n := range []int{7, 30, 111, 399, api.MaxLines} {
		for _, m := range []int{0, 1, 29, 200, api.MaxLines} {
			for _, bound := range []int{1, 2, 5, 40, 1000} {
				check(t, some(seed, n, bound), some(seed+1, m, bound))
				seed += 2
			}
		}
	}
}

// P7.1: a row with a few changes.
func TestFewChanges(t *testing.T) {
	a := some(5, 390, 60)
	for at := 0; at+7 < len(a); at += 13 {
		check(t, a, slices.Concat(a[:at], a[at+3:]))
		check(t, a, slices.Concat(a[:at], []int{-1, a[at], 7, 7, -2}, a[at+2:]))
		check(t, slices.Concat(a[at:], a[:at]), a)
	}
}

// P7.1: Long, and what is told of rows that are.
func TestLong(t *testing.T) {
	most, more := make([]int, api.MaxLines), make([]int, api.MaxLines+1)
	for _, c := range []struct {
		what string
		a, b []int
		want bool
	}{
		{"nothing", nil, nil, false},
		{"short", row("a"), row("b"), false},
		{"both at the limit", most, most, false},
		{"a at the limit", most, nil, false},
		{"b at the limit", nil, most, false},
		{"a above it", more, nil, true},
		{"b above it", nil, more, true},
		{"both above it", more, more, true},
		{"a above it, b at it", more, most, true},
		{"b above it, a at it", most, more, true},
		{"far above it", make([]int, 100000), row("a"), true},
		{"far above it, both", make([]int, 1000000), make([]int, 999999), true},
	} {
		if got := myers.Long(c.a, c.b); got != c.want {
			t.Errorf("%s: %t", c.what, got)
		}
		if !c.want {
			check(t, c.a, c.b)
			continue
		}
		n, pairs, steps := myers.Distance(c.a, c.b), myers.Pairs(c.a, c.b), myers.Steps(c.a, c.b)
		if n != 0 || len(pairs) != 0 || len(steps) != 0 {
			t.Errorf("%s: %d, %d pairs, %d steps", c.what, n, len(pairs), len(steps))
		}
	}
}

// P7.1: of rows at the limit of which nothing, or all but one, is kept.
func TestAtTheLimit(t *testing.T) {
	var a, b []int
	for i := range api.MaxLines {
		a, b = append(a, i), append(b, -1-i)
	}
	if n := myers.Distance(a, b); n != 2*api.MaxLines || len(myers.Pairs(a, b)) != 0 {
		t.Errorf("of unlike ones: %d", n)
	}
	s := told(myers.Steps(a, b))
	if len(s) != 2*api.MaxLines || s[api.MaxLines-1:api.MaxLines+1] != "OI" {
		t.Errorf("of unlike ones: %s", s)
	}
	turned := append(slices.Clone(a[1:]), a[0])
	if n := myers.Distance(a, turned); n != 2 || len(myers.Pairs(a, turned)) != api.MaxLines-1 {
		t.Errorf("of turned ones: %d", n)
	}
	slices.Reverse(turned)
	check(t, a, turned)
	check(t, a, b)
}

// P3: what is handed in stays as it is, spare room too.
func TestArgumentsStay(t *testing.T) {
	a, b := []int{3, 1, 3, 9, 8}, []int{1, 3, 9, 2}
	myers.Distance(a[:3], b[:2])
	myers.Pairs(a[:3], b[:2])
	myers.Steps(a[:3], b[:2])
	myers.Long(a[:3], b[:2])
	if !slices.Equal(a, []int{3, 1, 3, 9, 8}) || !slices.Equal(b, []int{1, 3, 9, 2}) {
		t.Errorf("left: %v, %v", a, b)
	}
}

// P3, P6: what is answered is new memory, and nothing is kept.
func TestAnswersAreNew(t *testing.T) {
	a, b := row("xab"), row("aby")
	pairs, steps := myers.Pairs(a, b), myers.Steps(a, b)
	pairs[0], steps[0] = [2]int{9, 9}, api.NoStep
	_, _ = append(pairs[:1], [2]int{8, 8}), append(steps[:1], api.In)
	again := myers.Pairs(a, b)
	if !slices.Equal(again, [][2]int{{1, 0}, {2, 1}}) || told(myers.Steps(a, b)) != "OKKI" || myers.Distance(a, b) != 2 {
		t.Errorf("then %v, %s", again, told(myers.Steps(a, b)))
	}
	if !slices.Equal(a, row("xab")) || !slices.Equal(b, row("aby")) {
		t.Errorf("left: %v, %v", a, b)
	}
}

// P1, P7.1, P7.3, P7.5: whatever is handed in is answered.
func FuzzRows(f *testing.F) {
	f.Add("abcabba", "cbabac", 1)
	f.Add("", "", 0)
	f.Add("aaaa", "aa", math.MaxInt)
	f.Add("\x00\xff", "\xff\x00", math.MinInt)
	f.Fuzz(func(t *testing.T, s, u string, factor int) {
		a, b := row(s), row(u)
		for i := range a {
			a[i] *= factor
		}
		for j := range b {
			b[j] *= factor
		}
		long := len(a) > api.MaxLines || len(b) > api.MaxLines
		if myers.Long(a, b) != long {
			t.Fatalf("Long of %d and %d", len(a), len(b))
		}
		if long {
			if myers.Distance(a, b) != 0 || len(myers.Pairs(a, b)) != 0 || len(myers.Steps(a, b)) != 0 {
				t.Fatalf("of %d and %d", len(a), len(b))
			}
			return
		}
		check(t, a, b)
		if n := myers.Distance(a, b); n != myers.Distance(b, a) || (n == 0) != slices.Equal(a, b) {
			t.Fatalf("Distance(%v, %v) = %d", a, b, n)
		}
	})
}
