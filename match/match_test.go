package match_test

import (
	"math"
	"slices"
	"testing"

	"jalousie/api"
	"jalousie/intern"
	"jalousie/match"
)

// pairs is a row of pairs, two numbers each.
func pairs(numbers ...int) [][2]int {
	var p [][2]int
	for i := 0; i < len(numbers); i += 2 {
		p = append(p, [2]int{numbers[i], numbers[i+1]})
	}
	return p
}

// every is all rows of up to n of some elements.
func every[E any](n int, some ...E) [][]E {
	all := [][]E{nil}
	last := all
	for range n {
		var next [][]E
		for _, l := range last {
			for _, one := range some {
				next = append(next, append(slices.Clone(l), one))
			}
		}
		all = append(all, next...)
		last = next
	}
	return all
}

// square is all pairs of numbers from one to another one.
func square(from, to int) [][2]int {
	var all [][2]int
	for i := from; i <= to; i++ {
		for j := from; j <= to; j++ {
			all = append(all, [2]int{i, j})
		}
	}
	return all
}

// matches is all matches of n places and m others, told from behind: of the pairs that may be the first one, each with all behind it.
func matches(n, m int) [][][2]int {
	var from func(i, j int) [][][2]int
	from = func(i, j int) [][][2]int {
		all := [][][2]int{nil}
		for a := i; a < n; a++ {
			for b := j; b < m; b++ {
				for _, rest := range from(a+1, b+1) {
					all = append(all, append(pairs(a, b), rest...))
				}
			}
		}
		return all
	}
	return from(0, 0)
}

// P12.1: Right, where it is told by hand.
func TestRight(t *testing.T) {
	for _, c := range []struct {
		what string
		p    [][2]int
		n, m int
		want bool
	}{
		{"none", nil, 0, 0, true},
		{"an empty list", [][2]int{}, 0, 0, true},
		{"none, of some", nil, 3, 5, true},
		{"none, of less than nothing", nil, -1, math.MinInt, true},
		{"one", pairs(0, 0), 1, 1, true},
		{"one at the ends", pairs(2, 4), 3, 5, true},
		{"one behind the end", pairs(3, 4), 3, 5, false},
		{"one behind the other end", pairs(2, 5), 3, 5, false},
		{"one ahead of the beginning", pairs(-1, 0), 3, 5, false},
		{"one ahead of the other beginning", pairs(0, -1), 3, 5, false},
		{"one of nothing", pairs(0, 0), 0, 5, false},
		{"one of nothing on the other side", pairs(0, 0), 5, 0, false},
		{"one of less than nothing", pairs(0, 0), -1, 5, false},
		{"one of less than nothing on the other side", pairs(0, 0), 5, math.MinInt, false},
		{"below less than nothing", pairs(-2, -2), -1, -1, false},
		{"some", pairs(0, 1, 2, 2, 3, 5), 4, 6, true},
		{"all", pairs(0, 0, 1, 1, 2, 2), 3, 3, true},
		{"the last one behind the end", pairs(0, 1, 2, 2, 3, 5), 3, 6, false},
		{"the last one behind the other end", pairs(0, 1, 2, 2, 3, 5), 4, 5, false},
		{"the firsts do not rise", pairs(1, 1, 1, 2), 5, 5, false},
		{"the seconds do not rise", pairs(1, 1, 2, 1), 5, 5, false},
		{"the firsts fall", pairs(1, 1, 0, 2), 5, 5, false},
		{"the seconds fall", pairs(1, 1, 2, 0), 5, 5, false},
		{"a pair again", pairs(1, 1, 1, 1), 5, 5, false},
		{"one in the midst is behind the end", pairs(0, 0, 9, 1, 2, 2), 5, 5, false},
		{"one in the midst is ahead of the beginning", pairs(0, 0, 1, -1, 2, 2), 5, 5, false},
		{"the last ones fall", pairs(0, 0, 1, 1, 2, 3, 3, 2), 5, 5, false},
		{"the greatest numbers", pairs(0, 0, math.MaxInt-1, math.MaxInt-1), math.MaxInt, math.MaxInt, true},
		{"above them", pairs(0, 0, math.MaxInt, 1), math.MaxInt, math.MaxInt, false},
		{"above them on the other side", pairs(0, 0, 1, math.MaxInt), math.MaxInt, math.MaxInt, false},
		{"the least numbers", pairs(math.MinInt, math.MinInt), math.MaxInt, math.MaxInt, false},
		{"the least numbers behind others", pairs(0, 0, math.MinInt, math.MinInt), math.MaxInt, math.MaxInt, false},
	} {
		if is := match.Right(c.p, c.n, c.m); is != c.want {
			t.Errorf("%s: %v", c.what, is)
		}
	}
}

// right is the document's words, each pair held against each other one.
func right(p [][2]int, n, m int) bool {
	for k, one := range p {
		if one[0] < 0 || one[0] >= n || one[1] < 0 || one[1] >= m {
			return false
		}
		for _, other := range p[:k] {
			if other[0] >= one[0] || other[1] >= one[1] {
				return false
			}
		}
	}
	return true
}

// P12.1, P12.3: Right, and that Gaps tells of nothing else, of all rows of up to 3 pairs.
func TestRightOfAll(t *testing.T) {
	for _, p := range every(3, square(-1, 3)...) {
		for n := -1; n <= 4; n++ {
			for m := -1; m <= 4; m++ {
				is := match.Right(p, n, m)
				if is != right(p, n, m) {
					t.Fatalf("Right(%v, %d, %d) = %v", p, n, m, is)
				}
				if g := match.Gaps(p, n, m); len(g) != 0 && (!is || n < 0 || m < 0) {
					t.Fatalf("Gaps(%v, %d, %d) = %v", p, n, m, g)
				}
			}
		}
	}
}

// P12.1, P12.4: all matches are right, and their pairs the other way round are matches, too.
func TestAllMatches(t *testing.T) {
	for n := range 6 {
		for m := range 6 {
			for _, p := range matches(n, m) {
				if !match.Right(p, n, m) {
					t.Fatalf("Right(%v, %d, %d)", p, n, m)
				}
				back := match.Invert(p)
				if !match.Right(back, m, n) || !slices.Equal(match.Invert(back), p) {
					t.Fatalf("Invert(%v) = %v", p, back)
				}
				checkGaps(t, p, n, m)
			}
		}
	}
}

// P12.1: Invert, of pairs that are no match, too: it has no error.
func TestInvert(t *testing.T) {
	for _, c := range []struct{ p, want [][2]int }{
		{nil, nil},
		{[][2]int{}, nil},
		{pairs(0, 1, 2, 2, 3, 5), pairs(1, 0, 2, 2, 5, 3)},
		{pairs(3, 1, 0, 2, 0, 2), pairs(1, 3, 2, 0, 2, 0)},
		{pairs(-1, math.MaxInt, math.MinInt, 7), pairs(math.MaxInt, -1, 7, math.MinInt)},
	} {
		if p := match.Invert(c.p); !slices.Equal(p, c.want) {
			t.Errorf("Invert(%v) = %v", c.p, p)
		}
	}
}

// P12.1, P6: To, of which the first pair counts, wherever it stands.
func TestTo(t *testing.T) {
	p := pairs(0, 1, 2, 2, 3, 5)
	wild := pairs(5, 7, 1, 0, 5, 8, -1, -2, 1, 9, math.MinInt, math.MaxInt, 0, 0)
	for _, c := range []struct {
		p    [][2]int
		i, j int
		want bool
	}{
		{nil, 0, 0, false},
		{p, 0, 1, true},
		{p, 1, 0, false},
		{p, 2, 2, true},
		{p, 3, 5, true},
		{p, 4, 0, false},
		{p, 5, 0, false},
		{p, -1, 0, false},
		{p, math.MaxInt, 0, false},
		{p, math.MinInt, 0, false},
		{wild, 5, 7, true},
		{wild, 1, 0, true},
		{wild, -1, -2, true},
		{wild, math.MinInt, math.MaxInt, true},
		{wild, 0, 0, true},
		{wild, 7, 0, false},
		{wild, 8, 0, false},
		{wild, math.MaxInt, 0, false},
	} {
		if j, is := match.To(c.p, c.i); j != c.j || is != c.want {
			t.Errorf("To(%v, %d) = %d, %v", c.p, c.i, j, is)
		}
	}
}

// P12.2: Compose, where it is told by hand.
func TestCompose(t *testing.T) {
	for _, c := range []struct{ p, q, want [][2]int }{
		{nil, nil, nil},
		{pairs(0, 0), nil, nil},
		{nil, pairs(0, 0), nil},
		{pairs(0, 1, 2, 2, 3, 5), pairs(1, 0, 5, 3), pairs(0, 0, 3, 3)},
		{pairs(0, 1), pairs(0, 1), nil},
		{pairs(0, 1), pairs(1, 0), pairs(0, 0)},
		{pairs(1, 2), pairs(2, 0), pairs(1, 0)},
		{pairs(0, 0, 1, 1, 2, 2), pairs(0, 5, 2, 6), pairs(0, 5, 2, 6)},
		// No matches: in p's order, and of q's the first pair counts.
		{pairs(3, 1, 1, 1, 2, 0), pairs(1, 9, 0, 4, 1, 8), pairs(3, 9, 1, 9, 2, 4)},
		{pairs(0, -1, 0, math.MaxInt), pairs(-1, math.MinInt, math.MaxInt, 0), pairs(0, math.MinInt, 0, 0)},
		{pairs(0, 0), pairs(1, 0, 0, 0), pairs(0, 0)},
	} {
		if p := match.Compose(c.p, c.q); !slices.Equal(p, c.want) {
			t.Errorf("Compose(%v, %v) = %v", c.p, c.q, p)
		}
	}
}

// compose is the document's words, by To.
func compose(p, q [][2]int) [][2]int {
	var both [][2]int
	for _, one := range p {
		if at := slices.IndexFunc(q, func(other [2]int) bool { return other[0] == one[1] }); at >= 0 {
			both = append(both, [2]int{one[0], q[at][1]})
		}
	}
	return both
}

// P12.1, P12.2: Compose and To, of all rows of up to 2 pairs, and of 3 with a first of one.
func TestComposeOfAll(t *testing.T) {
	check := func(p, q [][2]int) {
		if got := match.Compose(p, q); !slices.Equal(got, compose(p, q)) {
			t.Fatalf("Compose(%v, %v) = %v", p, q, got)
		}
		for _, one := range p {
			j, is := match.To(q, one[1])
			if single := match.Compose([][2]int{one}, q); is != (len(single) == 1) || is && single[0] != [2]int{one[0], j} {
				t.Fatalf("To(%v, %d) = %d, %v", q, one[1], j, is)
			}
		}
	}
	two, three := every(2, square(-1, 2)...), every(3, pairs(0, 0, 0, 1, 1, 0, 1, 2)...)
	for _, p := range two {
		for _, q := range two {
			check(p, q)
		}
	}
	for _, p := range three {
		for _, q := range three {
			check(p, q)
		}
	}
}

// P12.4: Compose of matches is a match, and may be grouped anyhow.
func TestComposeOfMatches(t *testing.T) {
	all := matches(3, 3)
	for _, p := range all {
		for _, q := range all {
			both := match.Compose(p, q)
			if !match.Right(both, 3, 3) {
				t.Fatalf("Compose(%v, %v) = %v", p, q, both)
			}
			if back := match.Compose(match.Invert(q), match.Invert(p)); !slices.Equal(back, match.Invert(both)) {
				t.Fatalf("Compose(%v, %v) = %v, and back %v", p, q, both, back)
			}
			for _, r := range all {
				if a, b := match.Compose(both, r), match.Compose(p, match.Compose(q, r)); !slices.Equal(a, b) {
					t.Fatalf("Compose of %v, %v, %v: %v, or %v", p, q, r, a, b)
				}
			}
		}
	}
	for _, p := range matches(2, 5) {
		for _, q := range matches(5, 3) {
			if both := match.Compose(p, q); !match.Right(both, 2, 3) {
				t.Fatalf("Compose(%v, %v) = %v", p, q, both)
			}
		}
	}
}

// P12.2: ByIDs, where it is told by hand.
func TestByIDs(t *testing.T) {
	for _, c := range []struct {
		x, y []int
		want [][2]int
	}{
		{nil, nil, nil},
		{[]int{1}, nil, nil},
		{nil, []int{1}, nil},
		{[]int{1}, []int{2}, nil},
		{[]int{0}, []int{0}, pairs(0, 0)},
		{[]int{7, 8, 9}, []int{9, 7, 8}, pairs(0, 1, 1, 2)},
		{[]int{1, 2, 3, 4}, []int{2, 1, 4, 4, 3}, pairs(0, 1, 2, 4)},
		{[]int{1, 2, 3}, []int{1, 2, 3}, pairs(0, 0, 1, 1, 2, 2)},
		{[]int{1, 2, 3}, []int{3, 2, 1}, pairs(0, 2)},
		// Whoever comes first by i is taken, also where the match is shorter then.
		{[]int{9, 1, 2, 3}, []int{1, 2, 3, 9}, pairs(0, 3)},
		// What was not taken plays no part behind it.
		{[]int{2, 1, 3}, []int{1, 2, 3}, pairs(0, 1, 2, 2)},
		{[]int{3, 1, 2, 4}, []int{1, 2, 3, 4}, pairs(0, 2, 3, 3)},
		{[]int{2, 4, 3, 5}, []int{2, 3, 4, 5}, pairs(0, 0, 1, 2, 3, 3)},
		// Numbers that are there more than once on either side are none's.
		{[]int{1, 2, 1}, []int{1, 2}, pairs(1, 1)},
		{[]int{1, 2}, []int{2, 1, 2}, pairs(0, 1)},
		{[]int{1, 1}, []int{1, 1}, nil},
		{[]int{5, 0, -5}, []int{0, -5, 5, 0}, pairs(0, 2)},
		{[]int{math.MinInt, 3, math.MaxInt}, []int{math.MinInt, math.MaxInt, 3}, pairs(0, 0, 1, 2)},
	} {
		if p := match.ByIDs(c.x, c.y); !slices.Equal(p, c.want) {
			t.Errorf("ByIDs(%v, %v) = %v", c.x, c.y, p)
		}
	}
}

// checkByIDs is P12.2 and P12.4 of ByIDs: each pair of intern.Once is held against all that were taken ahead.
func checkByIDs(t *testing.T, x, y []int) {
	t.Helper()
	var want [][2]int
	for _, one := range intern.Once(x, y) {
		if !slices.ContainsFunc(want, func(taken [2]int) bool { return one[1] <= taken[1] }) {
			want = append(want, one)
		}
	}
	got := match.ByIDs(x, y)
	if !slices.Equal(got, want) || !match.Right(got, len(x), len(y)) {
		t.Fatalf("ByIDs(%v, %v) = %v, not %v", x, y, got, want)
	}
}

// P12.2, P12.4: ByIDs of all short rows, and of all orders of 6 numbers.
func TestByIDsOfAll(t *testing.T) {
	short := every(4, 1, 2, 3, -4)
	for _, x := range short {
		for _, y := range short {
			checkByIDs(t, x, y)
		}
	}
	first := []int{0, 1, 2, 3, 4, 5}
	var orders func(y []int, k int)
	orders = func(y []int, k int) {
		if k == len(y) {
			checkByIDs(t, first, y)
			checkByIDs(t, y, first)
			checkByIDs(t, first, y[1:])
		}
		for i := k; i < len(y); i++ {
			y[k], y[i] = y[i], y[k]
			orders(y, k+1)
			y[k], y[i] = y[i], y[k]
		}
	}
	orders(slices.Clone(first), 0)
}

// P12.3: Gaps, where it is told by hand.
func TestGaps(t *testing.T) {
	const most = math.MaxInt
	for _, c := range []struct {
		what string
		p    [][2]int
		n, m int
		want []api.Gap
	}{
		{"nothing", nil, 0, 0, nil},
		{"no pairs", nil, 3, 5, []api.Gap{{A: 0, AN: 3, B: 0, BN: 5}}},
		{"no pairs, one side", [][2]int{}, 3, 0, []api.Gap{{AN: 3}}},
		{"no pairs, the other side", nil, 0, 5, []api.Gap{{BN: 5}}},
		{"no pairs of less than nothing", nil, -1, 5, nil},
		{"no pairs of less than nothing on the other side", nil, 5, -1, nil},
		{"no pairs of less than nothing at all", nil, math.MinInt, math.MinInt, nil},
		{"all pairs", pairs(0, 0, 1, 1, 2, 2), 3, 3, nil},
		{"ahead", pairs(1, 2), 2, 3, []api.Gap{{A: 0, AN: 1, B: 0, BN: 2}}},
		{"behind", pairs(0, 0), 2, 3, []api.Gap{{A: 1, AN: 1, B: 1, BN: 2}}},
		{"ahead and behind", pairs(1, 1), 3, 3, []api.Gap{{A: 0, AN: 1, B: 0, BN: 1}, {A: 2, AN: 1, B: 2, BN: 1}}},
		{"between", pairs(0, 0, 3, 2), 4, 3, []api.Gap{{A: 1, AN: 2, B: 1, BN: 1}}},
		{"empty on one side", pairs(0, 0, 1, 2), 2, 3, []api.Gap{{A: 1, AN: 0, B: 1, BN: 1}}},
		{"empty on the other side", pairs(0, 0, 2, 1), 3, 2, []api.Gap{{A: 1, AN: 1, B: 1, BN: 0}}},
		{"ahead, empty on one side", pairs(0, 2), 1, 3, []api.Gap{{BN: 2}}},
		{"behind, empty on the other side", pairs(0, 0), 3, 1, []api.Gap{{A: 1, AN: 2, B: 1, BN: 0}}},
		{"some", pairs(0, 1, 2, 2, 3, 5), 5, 6, []api.Gap{{BN: 1}, {A: 1, AN: 1, B: 2}, {A: 3, B: 3, BN: 2}, {A: 4, AN: 1, B: 6}}},
		{"no match", pairs(1, 1, 1, 2), 5, 5, nil},
		{"a match of more", pairs(0, 0, 3, 3), 3, 4, nil},
		{"a match of more on the other side", pairs(0, 0, 3, 3), 4, 3, nil},
		{"ahead of the beginning", pairs(-1, -1, 0, 0), 3, 3, nil},
		{"a wrong one in the midst", pairs(0, 0, 2, 2, 1, 1, 3, 3), 9, 9, nil},
		{"the greatest numbers", nil, most, most, []api.Gap{{AN: most, BN: most}}},
		{"the greatest places", pairs(most-1, 0), most, most, []api.Gap{{AN: most - 1}, {A: most, B: 1, BN: most - 1}}},
		{"above them", pairs(most, most), most, most, nil},
	} {
		if g := match.Gaps(c.p, c.n, c.m); !slices.Equal(g, c.want) {
			t.Errorf("%s: %v", c.what, g)
		}
	}
}

// checkGaps is P12.3 and P12.5 of a match: both sides are gone through, place by place.
func checkGaps(t *testing.T, p [][2]int, n, m int) {
	t.Helper()
	gaps := match.Gaps(p, n, m)
	left := gaps
	a, b := 0, 0
	for k := range len(p) + 1 {
		end := [2]int{n, m}
		if k < len(p) {
			end = p[k]
		}
		want := api.Gap{A: a, AN: end[0] - a, B: b, BN: end[1] - b}
		if want.AN+want.BN > 0 {
			if len(left) == 0 || left[0] != want {
				t.Fatalf("Gaps(%v, %d, %d) = %v: ahead of pair %d", p, n, m, gaps, k)
			}
			left = left[1:]
		}
		a, b = end[0]+1, end[1]+1
	}
	if len(left) > 0 {
		t.Fatalf("Gaps(%v, %d, %d) = %v: too many", p, n, m, gaps)
	}
	checkAllOfBoth(t, p, gaps, n, m)
}

// checkAllOfBoth is P12.5: each place is in one pair or in one gap, and in no more.
func checkAllOfBoth(t *testing.T, p [][2]int, gaps []api.Gap, n, m int) {
	t.Helper()
	mine, theirs := make([]int, n), make([]int, m)
	for _, one := range p {
		mine[one[0]]++
		theirs[one[1]]++
	}
	for _, g := range gaps {
		for i := range g.AN {
			mine[g.A+i]++
		}
		for j := range g.BN {
			theirs[g.B+j]++
		}
	}
	for _, times := range slices.Concat(mine, theirs) {
		if times != 1 {
			t.Fatalf("the pairs %v and the gaps %v of %d and %d", p, gaps, n, m)
		}
	}
}

// P12.1 to P12.5: of many pairs.
func TestMany(t *testing.T) {
	const n = 1 << 14
	var p, q [][2]int
	var ids, others []int
	for i := range n {
		p, q = append(p, [2]int{i, 2 * i}), append(q, [2]int{i, i + i%2})
		ids, others = append(ids, i), append(others, i^3)
	}
	if !match.Right(p, n, 2*n) || match.Right(p, n, 2*n-2) || match.Right(q, n, n+1) {
		t.Error("Right")
	}
	for i, pair := range match.Compose(p, q) {
		if pair != [2]int{i, 2 * i} {
			t.Fatalf("Compose: %v", pair)
		}
	}
	if both := match.Compose(p, q); len(both) != n/2 {
		t.Errorf("Compose: %d pairs", len(both))
	}
	if g := match.Gaps(p, n, 2*n); len(g) != n || g[n-1] != (api.Gap{A: n, B: 2*n - 1, BN: 1}) {
		t.Errorf("Gaps: %d", len(g))
	}
	// Of each four, which stand the other way round, the first one alone.
	if by := match.ByIDs(ids, others); len(by) != n/4 || by[1] != [2]int{4, 7} {
		t.Errorf("ByIDs: %d", len(by))
	}
}

// P3: what is handed in stays as it is, spare room too.
func TestArgumentsStay(t *testing.T) {
	room := func(numbers ...int) [][2]int { return append(pairs(numbers...), pairs(-7, -7, -8, -8)...) }
	p, q := room(0, 1, 2, 2, 3, 5), room(1, 0, 2, 3)
	x, y := []int{7, 8, 9, -7, -8}, []int{9, 7, 8, -7, -8}
	match.Right(p[:3], 4, 6)
	match.Invert(p[:3])
	match.To(p[:3], 2)
	match.Compose(p[:3], q[:2])
	match.Gaps(p[:3], 5, 6)
	match.ByIDs(x[:3], y[:3])
	if !slices.Equal(p, room(0, 1, 2, 2, 3, 5)) || !slices.Equal(q, room(1, 0, 2, 3)) {
		t.Errorf("left: %v, %v", p, q)
	}
	if !slices.Equal(x, []int{7, 8, 9, -7, -8}) || !slices.Equal(y, []int{9, 7, 8, -7, -8}) {
		t.Errorf("left: %v, %v", x, y)
	}
}

// spoil writes into all of a list, and behind it.
func spoil[E any](l []E, with E) {
	l = l[:cap(l)]
	for i := range l {
		l[i] = with
	}
}

// P3, P6: what is answered lies in nothing that was handed in, and nothing is kept.
func TestAnswersAreNew(t *testing.T) {
	p, q := pairs(0, 0, 1, 1, 2, 2), pairs(0, 0, 1, 1, 2, 2)
	x, y := []int{4, 5, 6}, []int{4, 5, 6}
	for range 2 {
		for _, l := range [][][2]int{match.Invert(p), match.Compose(p, q), match.ByIDs(x, y)} {
			if !slices.Equal(l, pairs(0, 0, 1, 1, 2, 2)) {
				t.Errorf("%v", l)
			}
			spoil(l, [2]int{9, 9})
		}
		g := match.Gaps(p, 4, 4)
		if !slices.Equal(g, []api.Gap{{A: 3, AN: 1, B: 3, BN: 1}}) {
			t.Errorf("%v", g)
		}
		spoil(g, api.Gap{A: 9})
	}
	if !slices.Equal(p, q) || !slices.Equal(p, pairs(0, 0, 1, 1, 2, 2)) || !slices.Equal(x, []int{4, 5, 6}) || !slices.Equal(y, x) {
		t.Errorf("left: %v, %v, %v, %v", p, q, x, y)
	}
}

// P1, P12.1 to P12.5: whatever is handed in is answered.
func FuzzPairs(f *testing.F) {
	f.Add([]byte{0, 1, 2, 2, 3, 5}, []byte{1, 0, 5, 3}, 4, 6, 1)
	f.Add([]byte{1, 1, 1, 2}, []byte{}, 5, 5, 1)
	f.Add([]byte{7}, []byte{0, 0}, -1, math.MaxInt, math.MinInt)
	f.Add([]byte{0, 0, 1, 1}, []byte{1, 1, 1, 0}, math.MaxInt, math.MaxInt, math.MaxInt)
	f.Fuzz(func(t *testing.T, a, b []byte, n, m, factor int) {
		of := func(b []byte) ([][2]int, []int) {
			var l []int
			for _, one := range b {
				l = append(l, int(int8(one))*factor)
			}
			return pairs(l[:len(l)&^1]...), l
		}
		p, x := of(a)
		q, y := of(b)
		is := match.Right(p, n, m)
		if len(p) < 200 && is != right(p, n, m) {
			t.Fatalf("Right(%v, %d, %d) = %v", p, n, m, is)
		}
		if back := match.Invert(p); !slices.Equal(match.Invert(back), p) || match.Right(back, m, n) != is {
			t.Fatalf("Invert(%v) = %v", p, back)
		}
		if both := match.Compose(p, q); !slices.Equal(both, compose(p, q)) {
			t.Fatalf("Compose(%v, %v) = %v", p, q, both)
		}
		checkByIDs(t, x, y)
		if gaps := match.Gaps(p, n, m); !is && len(gaps) != 0 {
			t.Fatalf("Gaps(%v, %d, %d) = %v", p, n, m, gaps)
		}
		if is && n >= 0 && m >= 0 && n < 1<<16 && m < 1<<16 {
			checkGaps(t, p, n, m)
		}
	})
}
