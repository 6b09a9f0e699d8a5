package chunk_test

import (
	"math"
	"slices"
	"testing"

	"jalousie/api"
	"jalousie/chunk"
	"jalousie/match"
)

// pairs is a row of pairs, two numbers each.
func pairs(numbers ...int) [][2]int {
	var p [][2]int
	for i := 0; i < len(numbers); i += 2 {
		p = append(p, [2]int{numbers[i], numbers[i+1]})
	}
	return p
}

// line is the match of n lines with n others, one by one, from a place on each side on.
func line(i, j, n int) [][2]int {
	var p [][2]int
	for k := range n {
		p = append(p, [2]int{i + k, j + k})
	}
	return p
}

// at is a chunk without lines, that begins at these places.
func at(o, a, b int) api.Chunk {
	return api.Chunk{O: o, A: a, B: b}
}

// stable is a stable chunk of n lines.
func stable(o, a, b, n int) api.Chunk {
	return api.Chunk{Stable: true, O: o, ON: n, A: a, AN: n, B: b, BN: n}
}

// unlike is a chunk that is not stable.
func unlike(o, on, a, an, b, bn int) api.Chunk {
	return api.Chunk{O: o, ON: on, A: a, AN: an, B: b, BN: bn}
}

// every is all rows of up to n of some elements.
func every[E any](n int, some ...E) [][]E {
	all := [][]E{nil}
	last := all
	for range n {
		var next [][]E
		for _, l := range last {
			for _, one := range some {
				next = append(next, append(slices.Clone(l), one))
			}
		}
		all = append(all, next...)
		last = next
	}
	return all
}

// matches is all matches of n places and m others, told from behind: of the pairs that may be the first one, each with all behind it.
func matches(n, m int) [][][2]int {
	var from func(i, j int) [][][2]int
	from = func(i, j int) [][][2]int {
		all := [][][2]int{nil}
		for a := i; a < n; a++ {
			for b := j; b < m; b++ {
				for _, rest := range from(a+1, b+1) {
					all = append(all, append(pairs(a, b), rest...))
				}
			}
		}
		return all
	}
	return from(0, 0)
}

// P13.1: Run, where it is told by hand.
func TestRun(t *testing.T) {
	oa, ob := pairs(0, 0, 1, 2, 2, 3, 4, 4), pairs(1, 0, 2, 1, 3, 2, 4, 3)
	last := line(math.MaxInt-3, math.MaxInt-3, 3)
	for _, c := range []struct {
		what   string
		oa, ob [][2]int
		c      api.Chunk
		want   int
	}{
		{"no pairs", nil, nil, at(0, 0, 0), 0},
		{"no pairs on one side", line(0, 0, 3), nil, at(0, 0, 0), 0},
		{"no pairs on the other side", nil, line(0, 0, 3), at(0, 0, 0), 0},
		{"all", line(0, 0, 3), line(0, 0, 3), at(0, 0, 0), 3},
		{"from the midst on", line(0, 0, 3), line(0, 0, 3), at(1, 1, 1), 2},
		{"behind the last one", line(0, 0, 3), line(0, 0, 3), at(3, 3, 3), 0},
		{"ahead of the first one", line(0, 0, 3), line(0, 0, 3), at(-1, -1, -1), 0},
		{"as many as the shorter one has", line(0, 0, 3), line(0, 0, 2), at(0, 0, 0), 2},
		{"as many as the other one has", line(0, 0, 2), line(0, 0, 3), at(0, 0, 0), 2},
		{"some", oa, ob, at(1, 2, 0), 2},
		{"one, the last one", oa, ob, at(2, 3, 1), 1},
		{"a step on one side", oa, ob, at(4, 4, 3), 1},
		{"matched on one side alone", oa, ob, at(0, 0, 0), 0},
		{"matched on the other side alone", oa, ob, at(3, 4, 2), 0},
		{"another place of the one", oa, ob, at(1, 1, 0), 0},
		{"another place of the other one", oa, ob, at(1, 2, 1), 0},
		{"a place below that of the other one", oa, ob, at(2, 3, 0), 0},
		{"a place that is left out", pairs(0, 0, 2, 1), pairs(0, 0, 2, 1), at(0, 0, 0), 1},
		{"a place that is left out in one", pairs(0, 0, 1, 2), pairs(0, 0, 1, 1), at(0, 0, 0), 1},
		{"a place that is left out in the other one", pairs(0, 0, 1, 1), pairs(0, 0, 1, 2), at(0, 0, 0), 1},
		{"what else is told of the chunk plays no part", line(0, 0, 3), line(0, 0, 3), unlike(0, 1, 0, -7, 0, math.MaxInt), 3},
		{"nor whether it is stable", oa, ob, stable(1, 2, 0, 1), 2},
		{"the greatest places", last, last, at(math.MaxInt-3, math.MaxInt-3, math.MaxInt-3), 3},
		{"above them", last, last, at(math.MaxInt, math.MaxInt, math.MaxInt), 0},
		{"the least ones", last, last, at(math.MinInt, math.MinInt, math.MinInt), 0},
		{"the least ones, of the others", line(0, 0, 3), line(0, 0, 3), at(0, math.MinInt, math.MaxInt), 0},
		{"none goes round", last, line(math.MaxInt-3, 0, 3), at(math.MinInt, math.MaxInt, math.MinInt), 0},
	} {
		if n := chunk.Run(c.oa, c.ob, c.c); n != c.want {
			t.Errorf("%s: %d", c.what, n)
		}
	}
}

// found is what Next answers.
type found struct {
	o, a, b int
	is      bool
}

// P13.1: Next, where it is told by hand.
func TestNext(t *testing.T) {
	oa, ob := pairs(0, 0, 1, 2, 2, 3, 4, 4), pairs(1, 0, 2, 1, 3, 2, 4, 3)
	most := math.MaxInt
	for _, c := range []struct {
		what   string
		oa, ob [][2]int
		c      api.Chunk
		want   found
	}{
		{"no pairs", nil, nil, at(0, 0, 0), found{}},
		{"no pairs on one side", nil, line(0, 0, 3), at(0, 0, 0), found{}},
		{"no pairs on the other side", line(0, 0, 3), nil, at(0, 0, 0), found{}},
		{"at once", line(0, 0, 3), line(0, 0, 3), at(0, 0, 0), found{0, 0, 0, true}},
		{"at once, in the midst", line(0, 0, 3), line(0, 0, 3), at(1, 1, 1), found{1, 1, 1, true}},
		{"behind the last one", line(0, 0, 3), line(0, 0, 3), at(3, 0, 0), found{}},
		{"behind the last one on one side", line(0, 0, 3), line(0, 0, 3), at(0, 3, 0), found{}},
		{"behind the last one on the other side", line(0, 0, 3), line(0, 0, 3), at(0, 0, 3), found{}},
		{"the first one on both sides", oa, ob, at(0, 0, 0), found{1, 2, 0, true}},
		{"from there on", oa, ob, at(2, 0, 0), found{2, 3, 1, true}},
		{"not below the place on one side", oa, ob, at(0, 3, 0), found{2, 3, 1, true}},
		{"not below the place on the other side", oa, ob, at(0, 0, 1), found{2, 3, 1, true}},
		{"not below either", oa, ob, at(0, 3, 2), found{4, 4, 3, true}},
		{"the last one", oa, ob, at(3, 0, 0), found{4, 4, 3, true}},
		{"no more on one side", oa, ob, at(0, 5, 0), found{}},
		{"no more on the other side", oa, ob, at(0, 0, 4), found{}},
		{"never the same place", pairs(0, 0, 2, 1), pairs(1, 0, 3, 1), at(0, 0, 0), found{}},
		{"what else is told of the chunk plays no part", oa, ob, stable(1, 0, 0, 3), found{1, 2, 0, true}},
		{"from ahead of all", oa, ob, at(-1, -1, -1), found{1, 2, 0, true}},
		{"the least numbers", oa, ob, at(math.MinInt, math.MinInt, math.MinInt), found{1, 2, 0, true}},
		{"the greatest numbers", oa, ob, at(most, most, most), found{}},
		{"the greatest places", pairs(most-1, most-2), pairs(most-1, most-3), at(0, most-2, most-3), found{most - 1, most - 2, most - 3, true}},
		{"above one of them", pairs(most-1, most-2), pairs(most-1, most-3), at(0, most-1, 0), found{}},
		{"above the other one", pairs(most-1, most-2), pairs(most-1, most-3), at(0, 0, most-2), found{}},
	} {
		o, a, b, is := chunk.Next(c.oa, c.ob, c.c)
		if (found{o, a, b, is}) != c.want {
			t.Errorf("%s: %d, %d, %d, %v", c.what, o, a, b, is)
		}
	}
}

// run is the document's words: line by line, each pair looked for.
func run(oa, ob [][2]int, c api.Chunk) int {
	i := 0
	for slices.Contains(oa, [2]int{c.O + i, c.A + i}) && slices.Contains(ob, [2]int{c.O + i, c.B + i}) {
		i++
	}
	return i
}

// next is the document's words: place by place, as far as there are any.
func next(oa, ob [][2]int, c api.Chunk, o int) found {
	for i := c.O; i < o; i++ {
		a, mine := match.To(oa, i)
		b, theirs := match.To(ob, i)
		if mine && theirs && a >= c.A && b >= c.B {
			return found{i, a, b, true}
		}
	}
	return found{}
}

// chunks is the document's words: a line at a time is put to the chunk that goes on there, or to a new one.
func chunks(oa, ob [][2]int, o, a, b int) []api.Chunk {
	var l []api.Chunk
	for c := at(0, 0, 0); c.O < o || c.A < a || c.B < b; {
		if n := run(oa, ob, c); n > 0 {
			c = stable(c.O, c.A, c.B, n)
		} else if f := next(oa, ob, c, o); f.is {
			c = unlike(c.O, f.o-c.O, c.A, f.a-c.A, c.B, f.b-c.B)
		} else {
			c = unlike(c.O, o-c.O, c.A, a-c.A, c.B, b-c.B)
		}
		l = append(l, c)
		c = at(c.O+c.ON, c.A+c.AN, c.B+c.BN)
	}
	return l
}

// P13.1: Run and Next, of all short matches, from all places on.
func TestPlacesOfAll(t *testing.T) {
	all := matches(3, 3)
	for _, oa := range all {
		for _, ob := range all {
			for k := range 5 * 5 * 5 {
				c := at(k/25-1, k/5%5-1, k%5-1)
				if n := chunk.Run(oa, ob, c); n != run(oa, ob, c) {
					t.Fatalf("Run(%v, %v, %v) = %d", oa, ob, c, n)
				}
				o, a, b, is := chunk.Next(oa, ob, c)
				if (found{o, a, b, is}) != next(oa, ob, c, 3) {
					t.Fatalf("Next(%v, %v, %v) = %d, %d, %d, %v", oa, ob, c, o, a, b, is)
				}
			}
		}
	}
}

// P13.2: Of, where it is told by hand.
func TestOf(t *testing.T) {
	for _, c := range []struct {
		what    string
		oa, ob  [][2]int
		o, a, b int
		want    []api.Chunk
	}{
		{"nothing", nil, nil, 0, 0, 0, nil},
		{"nothing, by empty lists", [][2]int{}, [][2]int{}, 0, 0, 0, nil},
		{"the document's", pairs(0, 0, 1, 2), pairs(0, 0, 1, 1), 2, 3, 2, []api.Chunk{stable(0, 0, 0, 1), unlike(1, 0, 1, 1, 1, 0), stable(1, 2, 1, 1)}},
		{"all the same", line(0, 0, 4), line(0, 0, 4), 4, 4, 4, []api.Chunk{stable(0, 0, 0, 4)}},
		{"nothing is the same", nil, nil, 1, 2, 3, []api.Chunk{unlike(0, 1, 0, 2, 0, 3)}},
		{"the first one alone", nil, nil, 4, 0, 0, []api.Chunk{unlike(0, 4, 0, 0, 0, 0)}},
		{"the second one alone", nil, nil, 0, 4, 0, []api.Chunk{unlike(0, 0, 0, 4, 0, 0)}},
		{"the third one alone", nil, nil, 0, 0, 4, []api.Chunk{unlike(0, 0, 0, 0, 0, 4)}},
		{"the same on one side alone", line(0, 0, 3), nil, 3, 3, 3, []api.Chunk{unlike(0, 3, 0, 3, 0, 3)}},
		{"more ahead", line(0, 1, 2), line(0, 0, 2), 2, 3, 2, []api.Chunk{unlike(0, 0, 0, 1, 0, 0), stable(0, 1, 0, 2)}},
		{"more behind", line(0, 0, 2), line(0, 0, 2), 2, 2, 3, []api.Chunk{stable(0, 0, 0, 2), unlike(2, 0, 2, 0, 2, 1)}},
		{"less behind", line(0, 0, 2), line(0, 0, 2), 3, 2, 2, []api.Chunk{stable(0, 0, 0, 2), unlike(2, 1, 2, 0, 2, 0)}},
		{"more between, on both sides", pairs(0, 0, 1, 2), pairs(0, 0, 1, 3), 2, 3, 4, []api.Chunk{stable(0, 0, 0, 1), unlike(1, 0, 1, 1, 1, 2), stable(1, 2, 3, 1)}},
		{"matched on one side ahead of both", pairs(0, 0, 1, 1), pairs(1, 0), 2, 2, 1, []api.Chunk{unlike(0, 1, 0, 1, 0, 0), stable(1, 1, 0, 1)}},
		{"the same with a step between", pairs(0, 0, 2, 2), pairs(0, 0, 1, 1, 2, 2), 3, 3, 3, []api.Chunk{stable(0, 0, 0, 1), unlike(1, 1, 1, 1, 1, 1), stable(2, 2, 2, 1)}},
		{"blocks that stand elsewhere", pairs(0, 0, 3, 1, 4, 2, 5, 5), pairs(0, 0, 1, 1, 2, 4, 5, 5), 6, 6, 6, []api.Chunk{stable(0, 0, 0, 1), unlike(1, 4, 1, 4, 1, 4), stable(5, 5, 5, 1)}},
		{"as many as may be", line(0, 0, 400), line(0, 0, 400), 400, 400, 400, []api.Chunk{stable(0, 0, 0, 400)}},
		{"as many, unlike", nil, nil, 400, 400, 400, []api.Chunk{unlike(0, 400, 0, 400, 0, 400)}},
	} {
		l, e := chunk.Of(c.oa, c.ob, c.o, c.a, c.b)
		if e != api.OK || !slices.Equal(l, c.want) {
			t.Errorf("%s: %v, %d", c.what, l, e)
		}
	}
}

// P13.2, P2: what Of refuses, with nothing beside.
func TestOfNoMatch(t *testing.T) {
	ok := line(0, 0, 3)
	for _, c := range []struct {
		what    string
		oa, ob  [][2]int
		o, a, b int
	}{
		{"less than nothing", nil, nil, -1, 0, 0},
		{"less than nothing of the second one", nil, nil, 0, -1, 0},
		{"less than nothing of the third one", nil, nil, 0, 0, -1},
		{"more than may be", nil, nil, api.MaxLines + 1, 0, 0},
		{"more of the second one", nil, nil, 0, api.MaxLines + 1, 0},
		{"more of the third one", nil, nil, 0, 0, api.MaxLines + 1},
		{"the greatest number", nil, nil, math.MaxInt, 3, 3},
		{"the greatest number of the second one", nil, nil, 3, math.MaxInt, 3},
		{"the greatest number of the third one", nil, nil, 3, 3, math.MaxInt},
		{"the least number", nil, nil, math.MinInt, 3, 3},
		{"the least number of the second one", nil, nil, 3, math.MinInt, 3},
		{"the least number of the third one", nil, nil, 3, 3, math.MinInt},
		{"more, and matches of these", line(0, 0, 401), line(0, 0, 401), 401, 401, 401},
		{"a match of more", ok, ok, 2, 3, 3},
		{"a match of more of the second one", ok, nil, 3, 2, 3},
		{"a match of more of the third one", nil, ok, 3, 3, 2},
		{"the other one of more", nil, ok, 2, 3, 3},
		{"places that do not rise", pairs(1, 1, 1, 2), ok, 3, 3, 3},
		{"places that do not rise on the other side", ok, pairs(1, 1, 1, 2), 3, 3, 3},
		{"others that do not rise", pairs(1, 1, 2, 1), ok, 3, 3, 3},
		{"others that do not rise on the other side", ok, pairs(1, 1, 2, 1), 3, 3, 3},
		{"ahead of the beginning", pairs(-1, 0), ok, 3, 3, 3},
		{"ahead of the other beginning", ok, pairs(0, -1), 3, 3, 3},
		{"of nothing", pairs(0, 0), nil, 0, 0, 0},
	} {
		if l, e := chunk.Of(c.oa, c.ob, c.o, c.a, c.b); e != api.ErrArg || len(l) != 0 {
			t.Errorf("%s: %v, %d", c.what, l, e)
		}
	}
}

// swapped is chunks with the second and the third text changed for one another.
func swapped(l []api.Chunk) []api.Chunk {
	var other []api.Chunk
	for _, c := range l {
		other = append(other, api.Chunk{Stable: c.Stable, O: c.O, ON: c.ON, A: c.B, AN: c.BN, B: c.A, BN: c.AN})
	}
	return other
}

// checkOf is P13.2 to P13.5 of two matches.
func checkOf(t *testing.T, oa, ob [][2]int, o, a, b int) {
	t.Helper()
	l, e := chunk.Of(oa, ob, o, a, b)
	if e != api.OK || !slices.Equal(l, chunks(oa, ob, o, a, b)) {
		t.Fatalf("Of(%v, %v, %d, %d, %d) = %v, %d", oa, ob, o, a, b, l, e)
	}
	if !chunk.Right(l, o, a, b) || !right(l, o, a, b) {
		t.Fatalf("Right(%v, %d, %d, %d)", l, o, a, b)
	}
	for k, c := range l {
		if k > 0 && l[k-1].Stable == c.Stable {
			t.Fatalf("Of(%v, %v, %d, %d, %d): alike side by side: %v", oa, ob, o, a, b, l)
		}
		for i := range c.ON {
			j, mine := match.To(oa, c.O+i)
			k, theirs := match.To(ob, c.O+i)
			if c.Stable && (!mine || !theirs || j != c.A+i || k != c.B+i) {
				t.Fatalf("Of(%v, %v, %d, %d, %d): not matched: %v", oa, ob, o, a, b, c)
			}
		}
	}
	if other, e := chunk.Of(ob, oa, o, b, a); e != api.OK || !slices.Equal(other, swapped(l)) {
		t.Fatalf("Of(%v, %v, %d, %d, %d) = %v, %d, the other way round", ob, oa, o, b, a, other, e)
	}
}

// P13.2 to P13.5: of all short matches.
func TestOfAll(t *testing.T) {
	for o := range 4 {
		for a := range 4 {
			for b := range 4 {
				for _, oa := range matches(o, a) {
					for _, ob := range matches(o, b) {
						checkOf(t, oa, ob, o, a, b)
					}
				}
			}
		}
	}
	for _, oa := range matches(4, 4) {
		for _, ob := range matches(4, 5) {
			checkOf(t, oa, ob, 4, 4, 5)
		}
	}
}

// P13.2, P13.4: of as many lines as may be, and as many chunks.
func TestOfMany(t *testing.T) {
	for _, c := range []struct {
		what   string
		oa, ob [][2]int
		want   int
	}{
		{"each second line", step(0, 400, 2), line(0, 0, 400), 400},
		{"each second line of both", step(0, 400, 2), step(0, 400, 2), 400},
		{"each third and each fifth line", step(0, 400, 3), step(0, 400, 5), 54},
		{"never the same line", step(0, 400, 2), step(1, 400, 2), 1},
		{"the last line alone", line(399, 399, 1), line(0, 0, 400), 2},
		{"the first line on the last one", line(0, 399, 1), line(0, 0, 400), 3},
	} {
		checkOf(t, c.oa, c.ob, 400, 400, 400)
		if l, _ := chunk.Of(c.oa, c.ob, 400, 400, 400); len(l) != c.want {
			t.Errorf("%s: %d", c.what, len(l))
		}
	}
}

// step is pairs of the same place, each so far behind the one ahead of it.
func step(from, n, by int) [][2]int {
	var p [][2]int
	for i := from; i < n; i += by {
		p = append(p, [2]int{i, i})
	}
	return p
}

// P13.3: Right, where it is told by hand.
func TestRight(t *testing.T) {
	const most, least = math.MaxInt, math.MinInt
	for _, c := range []struct {
		what    string
		l       []api.Chunk
		o, a, b int
		want    bool
	}{
		{"none", nil, 0, 0, 0, true},
		{"an empty list", []api.Chunk{}, 0, 0, 0, true},
		{"none of one line", nil, 1, 0, 0, false},
		{"none of one line of the second one", nil, 0, 1, 0, false},
		{"none of one line of the third one", nil, 0, 0, 1, false},
		{"none of less than nothing", nil, -1, 0, 0, false},
		{"none of less than nothing at all", nil, -1, -1, -1, false},
		{"none of the least numbers", nil, least, least, least, false},
		{"one", []api.Chunk{unlike(0, 1, 0, 2, 0, 3)}, 1, 2, 3, true},
		{"one, stable", []api.Chunk{stable(0, 0, 0, 2)}, 2, 2, 2, true},
		{"one, as many of each, not stable", []api.Chunk{unlike(0, 2, 0, 2, 0, 2)}, 2, 2, 2, true},
		{"the first one's lines alone", []api.Chunk{unlike(0, 1, 0, 0, 0, 0)}, 1, 0, 0, true},
		{"the second one's lines alone", []api.Chunk{unlike(0, 0, 0, 1, 0, 0)}, 0, 1, 0, true},
		{"the third one's lines alone", []api.Chunk{unlike(0, 0, 0, 0, 0, 1)}, 0, 0, 1, true},
		{"without lines", []api.Chunk{unlike(0, 0, 0, 0, 0, 0)}, 0, 0, 0, false},
		{"stable, without lines", []api.Chunk{stable(0, 0, 0, 0)}, 0, 0, 0, false},
		{"without lines, behind others", []api.Chunk{stable(0, 0, 0, 2), unlike(2, 0, 2, 0, 2, 0)}, 2, 2, 2, false},
		{"without lines, ahead of others", []api.Chunk{unlike(0, 0, 0, 0, 0, 0), stable(0, 0, 0, 2)}, 2, 2, 2, false},
		{"some", []api.Chunk{stable(0, 0, 0, 1), unlike(1, 0, 1, 1, 1, 0), stable(1, 2, 1, 1)}, 2, 3, 2, true},
		{"some, the same kind side by side", []api.Chunk{stable(0, 0, 0, 1), stable(1, 1, 1, 1), unlike(2, 1, 2, 0, 2, 0), unlike(3, 0, 2, 1, 2, 0)}, 3, 3, 2, true},
		{"a line too few", []api.Chunk{stable(0, 0, 0, 2)}, 3, 2, 2, false},
		{"a line too few of the second one", []api.Chunk{stable(0, 0, 0, 2)}, 2, 3, 2, false},
		{"a line too few of the third one", []api.Chunk{stable(0, 0, 0, 2)}, 2, 2, 3, false},
		{"a line too many", []api.Chunk{stable(0, 0, 0, 2)}, 1, 2, 2, false},
		{"a line too many of the second one", []api.Chunk{stable(0, 0, 0, 2)}, 2, 1, 2, false},
		{"a line too many of the third one", []api.Chunk{stable(0, 0, 0, 2)}, 2, 2, 1, false},
		{"stable, one more", []api.Chunk{{Stable: true, ON: 2, AN: 1, BN: 1}}, 2, 1, 1, false},
		{"stable, one more of the second one", []api.Chunk{{Stable: true, ON: 1, AN: 2, BN: 1}}, 1, 2, 1, false},
		{"stable, one more of the third one", []api.Chunk{{Stable: true, ON: 1, AN: 1, BN: 2}}, 1, 1, 2, false},
		{"not from the beginning", []api.Chunk{unlike(1, 1, 0, 2, 0, 2)}, 2, 2, 2, false},
		{"not from the beginning of the second one", []api.Chunk{unlike(0, 2, 1, 1, 0, 2)}, 2, 2, 2, false},
		{"not from the beginning of the third one", []api.Chunk{unlike(0, 2, 0, 2, 1, 1)}, 2, 2, 2, false},
		{"from ahead of it", []api.Chunk{unlike(-1, 3, 0, 2, 0, 2)}, 2, 2, 2, false},
		{"a step between", []api.Chunk{stable(0, 0, 0, 1), unlike(2, 1, 1, 1, 1, 1)}, 3, 2, 2, false},
		{"a step between, of the second one", []api.Chunk{stable(0, 0, 0, 1), unlike(1, 1, 2, 1, 1, 1)}, 2, 3, 2, false},
		{"a step between, of the third one", []api.Chunk{stable(0, 0, 0, 1), unlike(1, 1, 1, 1, 2, 1)}, 2, 2, 3, false},
		{"one over another one", []api.Chunk{stable(0, 0, 0, 2), unlike(1, 1, 2, 1, 2, 1)}, 2, 3, 3, false},
		{"one over another one, of the second one", []api.Chunk{stable(0, 0, 0, 2), unlike(2, 1, 1, 1, 2, 1)}, 3, 2, 3, false},
		{"one over another one, of the third one", []api.Chunk{stable(0, 0, 0, 2), unlike(2, 1, 2, 1, 1, 1)}, 3, 3, 2, false},
		{"in another order", []api.Chunk{stable(1, 1, 1, 1), unlike(0, 1, 0, 1, 0, 1)}, 2, 2, 2, false},
		{"less than nothing, and back", []api.Chunk{unlike(0, 2, 0, 2, 0, 2), unlike(2, -1, 2, 1, 2, 1)}, 1, 3, 3, false},
		{"less than nothing, and back, of the second one", []api.Chunk{unlike(0, 2, 0, 2, 0, 2), unlike(2, 1, 2, -1, 2, 1)}, 3, 1, 3, false},
		{"less than nothing, and back, of the third one", []api.Chunk{unlike(0, 2, 0, 2, 0, 2), unlike(2, 1, 2, 1, 2, -1)}, 3, 3, 1, false},
		{"less than nothing of less than nothing", []api.Chunk{unlike(0, -1, 0, -1, 0, -1)}, -1, -1, -1, false},
		{"stable, and less than nothing", []api.Chunk{stable(0, 0, 0, -1)}, -1, -1, -1, false},
		{"the greatest numbers", []api.Chunk{stable(0, 0, 0, most)}, most, most, most, true},
		{"the greatest numbers, behind others", []api.Chunk{stable(0, 0, 0, 1), unlike(1, most-1, 1, most-1, 1, most-1)}, most, most, most, true},
		{"above them", []api.Chunk{stable(0, 0, 0, 1), unlike(1, most, 1, most, 1, most)}, most, most, most, false},
		{"above them, and back", []api.Chunk{stable(0, 0, 0, 1), stable(1, 1, 1, most), stable(least, least, least, most), stable(-1, -1, -1, 6)}, 5, 5, 5, false},
		{"above them, going round", []api.Chunk{stable(0, 0, 0, 1), unlike(1, most, 1, most, 1, most)}, least, least, least, false},
		{"the least numbers", []api.Chunk{stable(least, least, least, least)}, least, least, least, false},
		{"a stretch of the least number", []api.Chunk{stable(0, 0, 0, least)}, least, least, least, false},
	} {
		if is := chunk.Right(c.l, c.o, c.a, c.b); is != c.want {
			t.Errorf("%s: %v", c.what, is)
		}
	}
}

// right is the document's words, side by side: which places each chunk has, told one by one.
func right(l []api.Chunk, o, a, b int) bool {
	var sides [3][]int
	for _, c := range l {
		if c.ON < 0 || c.AN < 0 || c.BN < 0 || c.ON+c.AN+c.BN == 0 || c.Stable && (c.ON != c.AN || c.AN != c.BN) {
			return false
		}
		if c.O != len(sides[0]) || c.A != len(sides[1]) || c.B != len(sides[2]) {
			return false
		}
		for k, n := range []int{c.ON, c.AN, c.BN} {
			sides[k] = append(sides[k], make([]int, n)...)
		}
	}
	return len(sides[0]) == o && len(sides[1]) == a && len(sides[2]) == b
}

// P13.3: Right, of all rows of up to 2 chunks with small numbers, and less than nothing.
func TestRightOfAll(t *testing.T) {
	var some []api.Chunk
	for k := range 1 << 9 {
		c := unlike(k&1, k>>1&3-1, k>>3&1, k>>4&3-1, k>>6&1, k>>7&3-1)
		some = append(some, c)
		if c.ON == c.AN || c.AN == c.BN {
			c.Stable = true
			some = append(some, c)
		}
	}
	for _, l := range every(2, some...) {
		sides := [3]int{}
		for _, c := range l {
			sides[0], sides[1], sides[2] = sides[0]+c.ON, sides[1]+c.AN, sides[2]+c.BN
		}
		// Of the numbers that may be theirs, and of one more.
		for more := range 3 {
			o, a, b := sides[0], sides[1]+more/2, sides[2]+more%2
			if is := chunk.Right(l, o, a, b); is != right(l, o, a, b) {
				t.Fatalf("Right(%v, %d, %d, %d) = %v", l, o, a, b, is)
			}
		}
	}
}

// P13.1: Run and Next, of more than a text's lines: they end soon enough.
func TestMany(t *testing.T) {
	const n = 1 << 16
	oa, ob := line(0, 7, n), line(0, 0, n)
	if k := chunk.Run(oa, ob, at(1, 8, 1)); k != n-1 {
		t.Errorf("Run: %d", k)
	}
	for i := range n {
		if o, a, b, is := chunk.Next(oa, ob, at(i, 0, 0)); !is || o != i || a != i+7 || b != i {
			t.Fatalf("Next: %d, %d, %d, %v", o, a, b, is)
		}
	}
	if o, _, _, is := chunk.Next(step(0, n, 2), step(1, n, 2), at(0, 0, 0)); is {
		t.Errorf("Next: %d", o)
	}
}

// P1: what is no match is answered, too, and ends.
func TestNoMatch(t *testing.T) {
	const most, least = math.MaxInt, math.MinInt
	some := pairs(0, 0, -1, 1, 1, -1, most, most, least, least, least, most)
	numbers := []int{0, 1, -1, most, least}
	for _, oa := range every(3, some...) {
		for _, ob := range every(1, some...) {
			for _, n := range numbers {
				chunk.Run(oa, ob, at(n, n, n))
				chunk.Run(ob, oa, at(n, -n, least))
				chunk.Next(oa, ob, at(n, n, n))
				chunk.Next(ob, oa, at(n, most, -n))
			}
		}
	}
}

// P3: what is handed in stays as it is, spare room too.
func TestArgumentsStay(t *testing.T) {
	room := func(numbers ...int) [][2]int { return append(pairs(numbers...), pairs(-7, -7, -8, -8)...) }
	oa, ob := room(0, 0, 1, 2, 2, 3), room(0, 0, 1, 1, 2, 3)
	l := []api.Chunk{stable(0, 0, 0, 1), unlike(1, 1, 1, 0, 1, 0), stable(9, 9, 9, 9)}
	chunk.Run(oa[:3], ob[:3], at(0, 0, 0))
	chunk.Next(oa[:3], ob[:3], at(1, 0, 0))
	chunk.Of(oa[:3], ob[:3], 4, 4, 5)
	chunk.Right(l[:2], 2, 1, 1)
	if !slices.Equal(oa, room(0, 0, 1, 2, 2, 3)) || !slices.Equal(ob, room(0, 0, 1, 1, 2, 3)) {
		t.Errorf("left: %v, %v", oa, ob)
	}
	if !slices.Equal(l, []api.Chunk{stable(0, 0, 0, 1), unlike(1, 1, 1, 0, 1, 0), stable(9, 9, 9, 9)}) {
		t.Errorf("left: %v", l)
	}
}

// P3, P6: what is answered is new, and nothing is kept.
func TestAnswersAreNew(t *testing.T) {
	oa, ob := pairs(0, 0, 1, 2), pairs(0, 0, 1, 1)
	for range 3 {
		l, e := chunk.Of(oa, ob, 2, 3, 2)
		if e != api.OK || !slices.Equal(l, []api.Chunk{stable(0, 0, 0, 1), unlike(1, 0, 1, 1, 1, 0), stable(1, 2, 1, 1)}) {
			t.Fatalf("%v, %d", l, e)
		}
		l = l[:cap(l)]
		for i := range l {
			l[i] = stable(9, 9, 9, 9)
		}
	}
}

// P1, P13.1 to P13.5: whatever is handed in is answered; of matches by the document's words.
func FuzzMatches(f *testing.F) {
	f.Add([]byte{0, 0, 1, 2}, []byte{0, 0, 1, 1}, 2, 3, 2, false)
	f.Add([]byte{0, 0, 3, 1, 1, 1, 1, 3}, []byte{0, 0, 1, 1, 1, 3, 3, 1}, 6, 6, 6, false)
	f.Add([]byte{1, 1, 0, 2}, []byte{0}, 5, 5, 5, true)
	f.Add([]byte{}, []byte{7, 7}, -1, math.MaxInt, math.MinInt, true)
	f.Add([]byte{}, []byte{}, 400, 401, 0, false)
	f.Fuzz(func(t *testing.T, x, y []byte, o, a, b int, wild bool) {
		// Steps make a match of most inputs; wild ones are taken as they are.
		of := func(l []byte) [][2]int {
			var p [][2]int
			last := [2]int{-1, -1}
			for i := 0; i+1 < len(l); i += 2 {
				one := [2]int{int(int8(l[i])), int(int8(l[i+1]))}
				if !wild {
					one = [2]int{last[0] + 1 + int(l[i]%4), last[1] + 1 + int(l[i+1]%4)}
				}
				p, last = append(p, one), one
			}
			return p
		}
		oa, ob := of(x), of(y)
		c := at(a, o, b)
		if n := chunk.Run(oa, ob, c); !wild && n != run(oa, ob, c) {
			t.Fatalf("Run(%v, %v, %v) = %d", oa, ob, c, n)
		}
		i, j, k, is := chunk.Next(oa, ob, c)
		if !is && (i != 0 || j != 0 || k != 0) {
			t.Fatalf("Next(%v, %v, %v) = %d, %d, %d, false", oa, ob, c, i, j, k)
		}
		if end := 4*len(x) + 1; !wild && c.O > -9999 && (found{i, j, k, is}) != next(oa, ob, c, end) {
			t.Fatalf("Next(%v, %v, %v) = %d, %d, %d, %v", oa, ob, c, i, j, k, is)
		}
		low, high := min(o, a, b) < 0, max(o, a, b) > api.MaxLines
		if low || high || !match.Right(oa, o, a) || !match.Right(ob, o, b) {
			if l, e := chunk.Of(oa, ob, o, a, b); e != api.ErrArg || len(l) != 0 {
				t.Fatalf("Of(%v, %v, %d, %d, %d) = %v, %d", oa, ob, o, a, b, l, e)
			}
			return
		}
		checkOf(t, oa, ob, o, a, b)
	})
}
