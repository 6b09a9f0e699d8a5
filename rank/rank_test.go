package rank_test

import (
	"math"
	"math/rand"
	"slices"
	"strconv"
	"strings"
	"testing"

	"jalousie/api"
	"jalousie/rank"
	"jalousie/text"
)

var (
	nan = math.NaN()
	inf = math.Inf(1)
)

// row is a text of a line for each letter.
func row(letters string) []api.Line {
	var l []api.Line
	for _, c := range letters {
		l = append(l, api.Line{Text: string(c)})
	}
	return l
}

// rows is such texts, told word by word; - is one without lines.
func rows(words string) [][]api.Line {
	var all [][]api.Line
	for _, word := range strings.Fields(words) {
		all = append(all, row(strings.Trim(word, "-")))
	}
	return all
}

// many is n lines, all alike.
func many(n int) []api.Line {
	return row(strings.Repeat("x", n))
}

// bare has its last line end without a newline.
func bare(letters string) []api.Line {
	l := row(letters)
	l[len(l)-1].Bare = true
	return l
}

// same: are two scores alike in all bits? All NaN are alike.
func same(x, y float64) bool {
	return math.Float64bits(x) == math.Float64bits(y) || x != x && y != y
}

func sameAll(a, b []api.Likeness) bool {
	return slices.EqualFunc(a, b, func(x, y api.Likeness) bool { return x.K == y.K && same(x.Score, y.Score) })
}

// longest is how many lines the longest row has that is one of both texts, with gaps: told by all that is left, not by a way.
func longest(a, b []api.Line) int {
	ahead := make([]int, len(b)+1)
	for _, x := range a {
		next := make([]int, len(b)+1)
		for j, y := range b {
			next[j+1] = max(ahead[j+1], next[j])
			if x == y {
				next[j+1] = ahead[j] + 1
			}
		}
		ahead = next
	}
	return ahead[len(b)]
}

// like is Like as the document tells it.
func like(a, b []api.Line) float64 {
	if len(a) > 400 || len(b) > 400 || len(a)+len(b) == 0 {
		return nan
	}
	return float64(2*longest(a, b)) / float64(len(a)+len(b))
}

// every is all texts of up to n lines, of these letters.
func every(n int, letters string) [][]api.Line {
	all := [][]api.Line{nil}
	last := all
	for range n {
		var next [][]api.Line
		for _, l := range last {
			for _, one := range row(letters) {
				next = append(next, append(slices.Clone(l), one))
			}
		}
		all = append(all, next...)
		last = next
	}
	return all
}

// checkLike is P23.1 and P23.3, of two texts.
func checkLike(t *testing.T, a, b []api.Line) {
	t.Helper()
	common := 0
	if len(a) <= 400 && len(b) <= 400 {
		common = longest(a, b)
	}
	if got := rank.Common(a, b); got != common || rank.Common(b, a) != got {
		t.Fatalf("Common(%v, %v) = %d, not %d", a, b, got, common)
	}
	x := rank.Like(a, b)
	if !same(x, like(a, b)) || !same(x, rank.Like(b, a)) {
		t.Fatalf("Like(%v, %v) = %v, not %v", a, b, x, like(a, b))
	}
	if x < 0 || x > 1 || (x == 1) != (slices.Equal(a, b) && len(a) > 0 && len(a) <= 400) {
		t.Fatalf("Like(%v, %v) = %v", a, b, x)
	}
}

// P23.1: Common and Like, where they are told by hand.
func TestLike(t *testing.T) {
	for _, c := range []struct {
		a, b []api.Line
		n    int
		want float64
	}{
		{row("ab"), row("bc"), 1, 0.5}, // The document's example.
		{nil, nil, 0, nan},             // And this one.
		{[]api.Line{}, nil, 0, nan},
		{nil, row("a"), 0, 0},
		{row("abc"), nil, 0, 0},
		{row("a"), row("a"), 1, 1},
		{row("a"), row("b"), 0, 0},
		{row("aba"), row("bab"), 2, 4.0 / 6},
		{row("abc"), row("cba"), 1, 2.0 / 6},
		{row("abcd"), row("acbd"), 3, 6.0 / 8},
		{row("aaaa"), row("aa"), 2, 4.0 / 6},
		{row("abcabba"), row("cbabac"), 4, 8.0 / 13},
		// Lines are alike just if they end alike.
		{bare("ab"), row("ab"), 1, 0.5},
		{bare("ab"), bare("ab"), 2, 1},
		{bare("a"), row("a"), 0, 0},
		{[]api.Line{{}}, []api.Line{{}}, 1, 1},
		{[]api.Line{{}}, []api.Line{{Bare: true}}, 0, 0},
		{[]api.Line{{Text: "a\n"}, {Text: "\xff"}}, []api.Line{{Text: "\xff"}, {Text: "a"}}, 1, 0.5},
	} {
		if n := rank.Common(c.a, c.b); n != c.n {
			t.Errorf("Common(%v, %v) = %d", c.a, c.b, n)
		}
		if x := rank.Like(c.a, c.b); !same(x, c.want) {
			t.Errorf("Like(%v, %v) = %v", c.a, c.b, x)
		}
		checkLike(t, c.a, c.b)
	}
}

// P23.1: texts as long as they may be, and longer ones.
func TestLong(t *testing.T) {
	for _, c := range []struct {
		n, m, common int
		want         float64
	}{
		{400, 400, 400, 1},
		{400, 0, 0, 0},
		{0, 400, 0, 0},
		{400, 100, 100, 0.4},
		{401, 401, 0, nan},
		{401, 400, 0, nan},
		{400, 401, 0, nan},
		{401, 0, 0, nan},
		{0, 401, 0, nan},
		{401, 1, 0, nan},
		{3, 5000, 0, nan},
		{100000, 100000, 0, nan},
	} {
		if n := rank.Common(many(c.n), many(c.m)); n != c.common {
			t.Errorf("Common of %d and %d: %d", c.n, c.m, n)
		}
		if x := rank.Like(many(c.n), many(c.m)); !same(x, c.want) {
			t.Errorf("Like of %d and %d: %v", c.n, c.m, x)
		}
	}
}

// P23.1, P23.3: of all short texts.
func TestAllShortTexts(t *testing.T) {
	short := every(4, "abc")
	for _, a := range short {
		for _, b := range short {
			checkLike(t, a, b)
		}
	}
}

// some is n lines of few kinds.
func some(turn *rand.Rand, n, few int) []api.Line {
	var l []api.Line
	for range n {
		l = append(l, api.Line{Text: strconv.Itoa(turn.Intn(few)), Bare: turn.Intn(9) == 0})
	}
	return l
}

// P23.1, P23.3: of longer ones.
func TestLongerTexts(t *testing.T) {
	turn := rand.New(rand.NewSource(23))
	for range 300 {
		checkLike(t, some(turn, turn.Intn(40), 5), some(turn, turn.Intn(40), 5))
	}
	for range 5 {
		checkLike(t, some(turn, 400, 20), some(turn, 350+turn.Intn(60), 20))
	}
}

// ahead: shall x stand ahead of y?
func ahead(x, y api.Likeness) bool {
	switch {
	case x.Score != x.Score || y.Score != y.Score:
		if x.Score == x.Score || y.Score == y.Score {
			return y.Score != y.Score
		}
	case x.Score != y.Score:
		return x.Score > y.Score
	}
	return x.K < y.K
}

// checkAll is P23.2 and P23.4.
func checkAll(t *testing.T, l [][]api.Line, to []api.Line) {
	t.Helper()
	all := rank.All(l, to)
	if len(all) != len(l) {
		t.Fatalf("All(%v, %v) = %v", l, to, all)
	}
	for i, one := range all {
		if one.K < 0 || one.K >= len(l) || !same(one.Score, like(l[one.K], to)) {
			t.Fatalf("All(%v, %v) = %v", l, to, all)
		}
		// Each stands ahead of the next one, so that all places are there.
		if i > 0 && !ahead(all[i-1], one) {
			t.Fatalf("All(%v, %v) = %v", l, to, all)
		}
	}
	k, is := rank.Nearest(l, to)
	want, some := 0, false
	for i := range l {
		x := like(l[i], to)
		if x == x && (!some || x > like(l[want], to)) {
			want, some = i, true
		}
	}
	if k != want || is != some {
		t.Fatalf("Nearest(%v, %v) = %d, %v", l, to, k, is)
	}
	for i := range l {
		if slices.Equal(l[i], to) && len(to) > 0 && len(to) <= 400 && (!is || !slices.Equal(l[k], to)) {
			t.Fatalf("Nearest(%v, %v) = %d, %v", l, to, k, is)
		}
	}
}

// P23.2: All and Nearest, where they are told by hand.
func TestAll(t *testing.T) {
	long := many(401)
	for _, c := range []struct {
		l    [][]api.Line
		to   []api.Line
		want []api.Likeness
	}{
		{nil, nil, nil},
		{nil, row("a"), nil},
		{rows("-"), nil, []api.Likeness{{K: 0, Score: nan}}},
		{rows("a"), nil, []api.Likeness{{K: 0, Score: 0}}},
		{rows("- a - b"), nil, []api.Likeness{{K: 1}, {K: 3}, {K: 0, Score: nan}, {K: 2, Score: nan}}},
		{rows("abc - x abd abcd"), row("abd"), []api.Likeness{{K: 3, Score: 1}, {K: 4, Score: 6.0 / 7}, {K: 0, Score: 4.0 / 6}, {K: 1}, {K: 2}}},
		{rows("b a b a b"), row("a"), []api.Likeness{{K: 1, Score: 1}, {K: 3, Score: 1}, {K: 0}, {K: 2}, {K: 4}}},
		{[][]api.Line{long, nil, row("x"), long, row("y"), row("x")}, row("x"), []api.Likeness{{K: 2, Score: 1}, {K: 5, Score: 1}, {K: 1}, {K: 4}, {K: 0, Score: nan}, {K: 3, Score: nan}}},
		{[][]api.Line{long, row("x"), long}, long, []api.Likeness{{K: 0, Score: nan}, {K: 1, Score: nan}, {K: 2, Score: nan}}},
		{[][]api.Line{bare("ab"), row("ab")}, row("ab"), []api.Likeness{{K: 1, Score: 1}, {K: 0, Score: 0.5}}},
	} {
		if got := rank.All(c.l, c.to); !sameAll(got, c.want) {
			t.Errorf("All(%v, %v) = %v", c.l, c.to, got)
		}
		k, is := rank.Nearest(c.l, c.to)
		if len(c.want) == 0 || c.want[0].Score != c.want[0].Score {
			if k != 0 || is {
				t.Errorf("Nearest(%v, %v) = %d, %v", c.l, c.to, k, is)
			}
		} else if k != c.want[0].K || !is {
			t.Errorf("Nearest(%v, %v) = %d, %v", c.l, c.to, k, is)
		}
		checkAll(t, c.l, c.to)
	}
}

// P23.2, P23.4: of many texts, many of them alike.
func TestAllOfMany(t *testing.T) {
	turn := rand.New(rand.NewSource(4))
	short := append(every(3, "abc"), many(401), many(500))
	for range 2000 {
		var l [][]api.Line
		for range turn.Intn(60) {
			l = append(l, short[turn.Intn(len(short))])
		}
		checkAll(t, l, short[turn.Intn(len(short))])
	}
	for _, to := range short {
		checkAll(t, short, to)
	}
}

// P23.4: what has nothing in common with another one is 0.
func TestNothingInCommon(t *testing.T) {
	for _, a := range every(3, "ab") {
		for _, b := range every(3, "cd") {
			if x := rank.Like(a, b); !same(x, 0) && len(a)+len(b) > 0 {
				t.Errorf("Like(%v, %v) = %v", a, b, x)
			}
		}
	}
}

// P23.2: Print, of likenesses that All made and of others.
func TestPrint(t *testing.T) {
	for _, c := range []struct {
		l    []api.Likeness
		want string
	}{
		{nil, ""},
		{[]api.Likeness{}, ""},
		{[]api.Likeness{{}}, "0 0\n"},
		{[]api.Likeness{{K: 3, Score: 1}, {K: 12, Score: 0.5}, {K: 0, Score: nan}, {K: 7, Score: 0}}, "3 1000\n12 500\n0 -\n7 0\n"},
		{rank.All(rows("abc - x abd abcd"), row("abd")), "3 1000\n4 857\n0 666\n1 0\n2 0\n"},
		// No call made these.
		{[]api.Likeness{{K: -1, Score: -0.5}, {K: math.MinInt, Score: -inf}}, "? 0\n? 0\n"},
		{[]api.Likeness{{K: api.MaxNum, Score: inf}, {K: api.MaxNum + 1, Score: 1e300}, {K: math.MaxInt, Score: -nan}}, "2147483647 1000\n? 1000\n? -\n"},
		{[]api.Likeness{{K: 1, Score: math.Copysign(0, -1)}, {K: 1, Score: math.Nextafter(1, 0)}, {K: 1, Score: 0.0009999}, {K: 1, Score: 0.001}}, "1 0\n1 999\n1 0\n1 1\n"},
		{[]api.Likeness{{K: 5, Score: 0.1}, {K: 2, Score: 0.9}, {K: 5, Score: nan}, {K: 5, Score: 0.1}}, "5 100\n2 900\n5 -\n5 100\n"},
	} {
		if got := string(rank.Print(c.l)); got != c.want {
			t.Errorf("Print(%v) = %q", c.l, got)
		}
	}
}

// spoil writes over all of a list, spare room too.
func spoil[E any](l []E, with E) {
	l = l[:cap(l)]
	for i := range l {
		l[i] = with
	}
}

// deep is a copy of texts that shares nothing with them.
func deep(l [][]api.Line) [][]api.Line {
	var c [][]api.Line
	for _, one := range l {
		c = append(c, slices.Clone(one))
	}
	return c
}

// P3, P6: what is handed in stays as it is, spare room too; what is answered is new, and nothing is kept.
func TestNothingIsShared(t *testing.T) {
	room := row("abcdefgh")
	l := [][]api.Line{room[:3], room[2:5], room[:0], room[4:6], nil}
	was := deep([][]api.Line{room})[0]
	all := rank.All(l[:4], room[1:4])
	for range 3 {
		if again := rank.All(l[:4], room[1:4]); !sameAll(again, all) {
			t.Errorf("%v, then %v", all, again)
		} else {
			spoil(again, api.Likeness{K: 9, Score: 9})
		}
	}
	printed := rank.Print(all)
	spoil(rank.Print(all), 'x')
	if again := rank.Print(all); string(again) != string(printed) {
		t.Errorf("%q, then %q", printed, again)
	}
	rank.Nearest(l[:4], room[1:4])
	rank.Like(l[0], l[1])
	rank.Common(l[1], l[0])
	if !slices.Equal(room, was) || len(l[4]) != 0 {
		t.Errorf("left: %v", room)
	}
}

// P1 to P3, P23.1 to P23.4, of texts of the fuzzer's own.
func FuzzTexts(f *testing.F) {
	f.Add("a\nb\n", "b\nc\n", "a\nb")
	f.Add("", "\n\n\n", "\n\n")
	f.Add(strings.Repeat("x\n", 401), "x\n", "")
	f.Fuzz(func(t *testing.T, x, y, z string) {
		a, b, c := text.Lines([]byte(x)), text.Lines([]byte(y)), text.Lines([]byte(z))
		if len(a)+len(b)+len(c) > 1000 {
			return
		}
		l := [][]api.Line{a, b, c, b, nil}
		was := deep(l)
		for _, one := range l {
			checkLike(t, a, one)
			checkAll(t, l, one)
		}
		if lines := text.Lines(rank.Print(rank.All(l, c))); len(lines) != len(l) {
			t.Errorf("%d lines", len(lines))
		}
		for i := range l {
			if !slices.Equal(l[i], was[i]) {
				t.Errorf("left: %v", l[i])
			}
		}
	})
}
