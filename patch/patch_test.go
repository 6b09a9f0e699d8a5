package patch_test

import (
	"math"
	"slices"
	"strings"
	"testing"

	"jalousie/api"
	"jalousie/hunk"
	"jalousie/patch"
	"jalousie/script"
	"jalousie/text"
)

// row is lines of which none is Bare, a letter each.
func row(letters string) []api.Line {
	var l []api.Line
	for i := range len(letters) {
		l = append(l, api.Line{Text: letters[i : i+1]})
	}
	return l
}

// bare is lines of which the last one alone is Bare.
func bare(letters string) []api.Line {
	l := row(letters)
	l[len(l)-1].Bare = true
	return l
}

// edit is what is done, and to which lines, a letter each: K, O or I first; the last one is Bare behind a ~.
func edit(s string) api.Edit {
	do := map[byte]api.Step{'K': api.Keep, 'O': api.Out, 'I': api.In}[s[0]]
	if letters, is := strings.CutSuffix(s[1:], "~"); is {
		return api.Edit{Do: do, Lines: bare(letters)}
	}
	return api.Edit{Do: do, Lines: row(s[1:])}
}

// of is a script by its edits' texts, with blanks between.
func of(s string) []api.Edit {
	var l []api.Edit
	for _, one := range strings.Fields(s) {
		l = append(l, edit(one))
	}
	return l
}

// at is the hunk of a script, with its lines counted.
func at(oldAt, newAt int, s []api.Edit) api.Hunk {
	return api.Hunk{OldAt: oldAt, NewAt: newAt, Edits: s, Old: len(side(s, api.Keep, api.Out)), New: len(side(s, api.Keep, api.In))}
}

// one is a hunk by its edits' texts.
func one(oldAt, newAt int, s string) api.Hunk {
	return at(oldAt, newAt, of(s))
}

// two is hunks that put in as many lines as are said, without one that stays between.
func two(n, m int) []api.Hunk {
	return []api.Hunk{at(0, 0, many(api.In, 1, n)), at(0, n, many(api.In, 1, m))}
}

// many is n edits, each of so many lines.
func many(do api.Step, n, lines int) []api.Edit {
	return slices.Repeat([]api.Edit{{Do: do, Lines: make([]api.Line, lines)}}, n)
}

// adjacent is n hunks that each put another x in the place of one, with none between.
func adjacent(n int) []api.Hunk {
	var l []api.Hunk
	for i := range n {
		l = append(l, one(i, i, "Ox Ix"))
	}
	return l
}

func same(a, b []api.Edit) bool {
	return slices.EqualFunc(a, b, func(x, y api.Edit) bool {
		return x.Do == y.Do && slices.Equal(x.Lines, y.Lines)
	})
}

func sameHunks(a, b []api.Hunk) bool {
	return slices.EqualFunc(a, b, func(x, y api.Hunk) bool {
		return x.OldAt == y.OldAt && x.Old == y.Old && x.NewAt == y.NewAt && x.New == y.New && same(x.Edits, y.Edits)
	})
}

// deep is hunks that lie in no other ones' memory.
func deep(l []api.Hunk) []api.Hunk {
	c := slices.Clone(l)
	for i := range c {
		c[i].Edits = slices.Clone(c[i].Edits)
		for k := range c[i].Edits {
			c[i].Edits[k].Lines = slices.Clone(c[i].Edits[k].Lines)
		}
	}
	return c
}

// every is all rows of up to n of some elements.
func every[E any](n int, some ...E) [][]E {
	all := [][]E{nil}
	last := all
	for range n {
		var next [][]E
		for _, l := range last {
			for _, e := range some {
				next = append(next, append(slices.Clone(l), e))
			}
		}
		all = append(all, next...)
		last = next
	}
	return all
}

// side is all lines of edits to which one of two things is done.
func side(s []api.Edit, do, or api.Step) []api.Line {
	var l []api.Line
	for _, e := range s {
		if e.Do == do || e.Do == or {
			l = append(l, e.Lines...)
		}
	}
	return l
}

// done is what hunks do to a text.
type done struct {
	text       []api.Line
	stays      [][2]int
	gone, made []int
}

// apply is reckoned in another way: line by line, as the hunks say it, without a script of the whole. The hunks must stand in a.
func apply(l []api.Hunk, a []api.Line) done {
	var d done
	i := 0
	keep := func(line api.Line) {
		d.stays = append(d.stays, [2]int{i, len(d.text)})
		d.text = append(d.text, line)
		i++
	}
	for _, h := range l {
		for i < h.OldAt {
			keep(a[i])
		}
		for _, e := range h.Edits {
			for _, line := range e.Lines {
				switch e.Do {
				case api.Keep:
					keep(line)
				case api.Out:
					d.gone = append(d.gone, i)
					i++
				case api.In:
					d.made = append(d.made, len(d.text))
					d.text = append(d.text, line)
				}
			}
		}
	}
	for i < len(a) {
		keep(a[i])
	}
	return d
}

// asks is all that Apply, Gone and Made tell of hunks and a text, and their errors.
func asks(l []api.Hunk, a []api.Line) (done, [3]api.Errno) {
	var d done
	var e [3]api.Errno
	d.text, d.stays, e[0] = patch.Apply(l, a)
	d.gone, e[1] = patch.Gone(l, a)
	d.made, e[2] = patch.Made(l, a)
	return d, e
}

func sameDone(x, y done) bool {
	return slices.Equal(x.text, y.text) && slices.Equal(x.stays, y.stays) && slices.Equal(x.gone, y.gone) && slices.Equal(x.made, y.made)
}

// checkDone is P11.1 of hunks that stand in a text.
func checkDone(t *testing.T, l []api.Hunk, a []api.Line, want done) {
	t.Helper()
	if d, e := asks(l, a); e != [3]api.Errno{} || !sameDone(d, want) {
		t.Fatalf("%v, of %v: %v, %v, not %v", l, a, d, e, want)
	}
}

// checkWrong is P11.1 and P2 of hunks that cannot be applied: each call has the one error, and nothing else.
func checkWrong(t *testing.T, what string, l []api.Hunk, a []api.Line, want api.Errno) {
	t.Helper()
	if d, e := asks(l, a); e != [3]api.Errno{want, want, want} || !sameDone(d, done{}) {
		t.Errorf("%s: %d and not %d, %v", what, e, want, d)
	}
}

// P11.1: Apply, Gone and Made, where they are told by hand.
func TestApply(t *testing.T) {
	for _, c := range []struct {
		what, a    string
		l          []api.Hunk
		text       string
		stays      [][2]int
		gone, made []int
	}{
		{"nothing", "", nil, "", nil, nil, nil},
		{"no hunks", "ab", nil, "ab", [][2]int{{0, 0}, {1, 1}}, nil, nil},
		{"no hunks in a list", "ab", []api.Hunk{}, "ab", [][2]int{{0, 0}, {1, 1}}, nil, nil},
		{"the document's", "abc", []api.Hunk{one(0, 0, "Ix")}, "xabc", [][2]int{{0, 1}, {1, 2}, {2, 3}}, nil, []int{0}},
		{"one for another", "abcde", []api.Hunk{one(1, 1, "Kb Oc Ix Kd")}, "abxde", [][2]int{{0, 0}, {1, 1}, {3, 3}, {4, 4}}, []int{2}, []int{2}},
		{"out at the beginning", "ab", []api.Hunk{one(0, 0, "Oa")}, "b", [][2]int{{1, 0}}, []int{0}, nil},
		{"out at the end", "ab", []api.Hunk{one(1, 1, "Ob")}, "a", [][2]int{{0, 0}}, []int{1}, nil},
		{"in at the end", "ab", []api.Hunk{one(2, 2, "Ixy")}, "abxy", [][2]int{{0, 0}, {1, 1}}, nil, []int{2, 3}},
		{"to nothing", "", []api.Hunk{one(0, 0, "Ixy")}, "xy", nil, nil, []int{0, 1}},
		{"all out", "ab", []api.Hunk{one(0, 0, "Oab")}, "", nil, []int{0, 1}, nil},
		{"another text", "ab", []api.Hunk{one(0, 0, "Oab Ixyz")}, "xyz", nil, []int{0, 1}, []int{0, 1, 2}},
		{"the same for itself", "abc", []api.Hunk{one(1, 1, "Ob Ib")}, "abc", [][2]int{{0, 0}, {2, 2}}, []int{1}, []int{1}},
		{"two", "abcdef", []api.Hunk{one(0, 0, "Oa Kb"), one(3, 2, "Kd Ix")}, "bcdxef", [][2]int{{1, 0}, {2, 1}, {3, 2}, {4, 4}, {5, 5}}, []int{0}, []int{3}},
		{"two with none between", "ab", []api.Hunk{one(0, 0, "Oa Ix"), one(1, 1, "Ob Iy")}, "xy", nil, []int{0, 1}, []int{0, 1}},
		{"two at the same place", "ab", []api.Hunk{one(1, 1, "Ix"), one(1, 2, "Iy")}, "axyb", [][2]int{{0, 0}, {1, 3}}, nil, []int{1, 2}},
		{"two changes in one", "abcde", []api.Hunk{one(0, 0, "Oa Kbcd Oe Ixyz")}, "bcdxyz", [][2]int{{1, 0}, {2, 1}, {3, 2}}, []int{0, 4}, []int{3, 4, 5}},
		{"alike lines", "aaa", []api.Hunk{one(1, 1, "Oa"), one(3, 2, "Ia")}, "aaa", [][2]int{{0, 0}, {2, 1}}, []int{1}, []int{2}},
		{"a newline at the end", "ab~", []api.Hunk{one(1, 1, "Ob~ Ib")}, "ab", [][2]int{{0, 0}}, []int{1}, []int{1}},
		{"none at the end", "ab", []api.Hunk{one(1, 1, "Ob Ib~")}, "ab~", [][2]int{{0, 0}}, []int{1}, []int{1}},
		{"none at the end, in the hunk", "ab~", []api.Hunk{one(0, 0, "Oa Kb~")}, "b~", [][2]int{{1, 0}}, []int{0}, nil},
		{"none at the end, behind the hunk", "ab~", []api.Hunk{one(0, 0, "Oa")}, "b~", [][2]int{{1, 0}}, []int{0}, nil},
	} {
		a, made := edit("K"+c.a).Lines, edit("K"+c.text).Lines
		checkDone(t, c.l, a, done{made, c.stays, c.gone, c.made})
		checkDone(t, c.l, a, apply(c.l, a))
	}
}

// P11.1: lines of any length, and of any bytes but 10, may be put in and stay.
func TestApplyOfAnyBytes(t *testing.T) {
	long := api.Line{Text: strings.Repeat("x", api.MaxText+1)}
	wild := api.Line{Text: "\x00\xff\r+-@@ \\"}
	a := []api.Line{long, {}, wild}
	l := []api.Hunk{at(1, 1, []api.Edit{{Do: api.Keep, Lines: []api.Line{{}}}, {Do: api.In, Lines: []api.Line{wild, {}, long}}})}
	checkDone(t, l, a, done{[]api.Line{long, {}, wild, {}, long, wild}, [][2]int{{0, 0}, {1, 1}, {2, 5}}, nil, []int{2, 3, 4}})
}

// faults is hunks with what hunk.Check tells of them.
func faults() []struct {
	what string
	l    []api.Hunk
	want api.Errno
} {
	lying := func(oldAt, old, newAt, new int) []api.Hunk {
		return []api.Hunk{{OldAt: oldAt, Old: old, NewAt: newAt, New: new, Edits: of("Ka Ob")}}
	}
	return []struct {
		what string
		l    []api.Hunk
		want api.Errno
	}{
		{"a hunk of nothing", []api.Hunk{{}}, api.ErrForm},
		{"a hunk that changes nothing", []api.Hunk{one(0, 0, "Ka")}, api.ErrForm},
		{"a hunk that is not normal", []api.Hunk{one(0, 0, "Ix Oa")}, api.ErrForm},
		{"a wrong step", []api.Hunk{at(0, 0, []api.Edit{edit("Oa"), {Do: 4, Lines: row("b")}})}, api.ErrForm},
		{"no step", []api.Hunk{at(0, 0, []api.Edit{edit("Oa"), {}})}, api.ErrForm},
		{"Old", lying(0, 1, 0, 1), api.ErrForm},
		{"New", lying(0, 2, 0, 2), api.ErrForm},
		{"OldAt", lying(1, 2, 0, 1), api.ErrForm},
		{"below 0", lying(-1, 2, -1, 1), api.ErrForm},
		{"the greatest numbers", lying(math.MaxInt, 2, math.MaxInt, 1), api.ErrForm},
		{"the least numbers", lying(math.MinInt, math.MinInt, math.MinInt, math.MinInt), api.ErrForm},
		{"a second one moved", []api.Hunk{one(0, 0, "Oa"), one(1, 1, "Ox")}, api.ErrForm},
		{"a second one ahead", []api.Hunk{one(2, 2, "Oa"), one(0, 0, "Ox")}, api.ErrForm},
		{"401 hunks", adjacent(401), api.ErrLimit},
		{"401 hunks, and one that is wrong", append(adjacent(400), api.Hunk{OldAt: -1}), api.ErrLimit},
		{"801 edits", []api.Hunk{at(0, 0, many(api.In, 801, 0))}, api.ErrLimit},
		{"801 lines", []api.Hunk{at(0, 0, many(api.Out, 1, 801))}, api.ErrLimit},
		{"401 lines", []api.Hunk{at(0, 0, many(api.In, 1, 401))}, api.ErrForm},
	}
}

// P11.1, P11.2, P2: hunk.Check's error, ahead of all others.
func TestOfWrongHunks(t *testing.T) {
	for _, c := range faults() {
		for _, a := range [][]api.Line{nil, row("ab"), bare("ab"), make([]api.Line, 400), make([]api.Line, 2000)} {
			checkWrong(t, c.what, c.l, a, c.want)
		}
		if l, e := patch.Reverse(c.l); e != c.want || len(l) != 0 {
			t.Errorf("%s: Reverse tells %d, %v", c.what, e, l)
		}
	}
}

// P11.1, P2: hunk.Whole's other errors.
func TestApplyToOthers(t *testing.T) {
	l := []api.Hunk{one(1, 1, "Kb Oc Ix"), one(4, 4, "Oe Kf")}
	for _, c := range []struct {
		what string
		l    []api.Hunk
		a    []api.Line
		want api.Errno
	}{
		{"nothing", l, nil, api.ErrApply},
		{"a line less", l, row("abcde"), api.ErrApply},
		{"a line more ahead", l, row("xabcdef"), api.ErrApply},
		{"another one that stays", l, row("axcdef"), api.ErrApply},
		{"another one that is taken out", l, row("abxdef"), api.ErrApply},
		{"another one in the second hunk", l, row("abcdxf"), api.ErrApply},
		{"Bare at the end", l, bare("abcdef"), api.ErrApply},
		{"what they made", l, row("abxdf"), api.ErrApply},
		{"in behind the end", []api.Hunk{one(3, 3, "Ix")}, row("ab"), api.ErrApply},
		{"a long text", l, make([]api.Line, 401), api.ErrLimit},
		{"a long text, no hunks", nil, make([]api.Line, 401), api.ErrLimit},
		{"a longer one", nil, make([]api.Line, 2000), api.ErrLimit},
		// The text that they would make plays no part then.
		{"none of this text, and more lines", append([]api.Hunk{at(0, 0, many(api.In, 1, 400))}, one(0, 400, "Ox Iyz")), row("ab"), api.ErrApply},
		{"none of this text, and Bare", []api.Hunk{one(0, 0, "Ia~ Kx")}, row("b"), api.ErrApply},
		{"a long text, and none of it", []api.Hunk{one(0, 0, "Ia~ Kx")}, make([]api.Line, 401), api.ErrLimit},
		// Each of these makes three edits: one of lines that stay is ahead of it.
		{"more edits than there may be", adjacent(267), slices.Repeat(row("x"), 267), api.ErrLimit},
		{"more edits than there may be, and Bare", adjacent(267), append(slices.Repeat(row("x"), 267), bare("yz")...), api.ErrLimit},
		{"more edits than there may be, of a text that is not right", adjacent(267), append(slices.Repeat(row("x"), 267), api.Line{Text: "y", Bare: true}, api.Line{}), api.ErrLimit},
		{"more lines than there may be", two(400, 400), row("x"), api.ErrLimit},
	} {
		checkWrong(t, c.what, c.l, c.a, c.want)
	}
	checkDone(t, l, row("abcdefg"), apply(l, row("abcdefg")))
	x := []api.Line(slices.Repeat(row("x"), 400))
	checkDone(t, adjacent(266), x, apply(adjacent(266), x))
}

// P11.1: the limit of the new text, which is told ahead of its form.
func TestLimitOfTheNewText(t *testing.T) {
	x := []api.Line(slices.Repeat(row("x"), 400))
	wrong := []api.Hunk{at(0, 0, []api.Edit{{Do: api.In, Lines: []api.Line{{Text: "y", Bare: true}}}})}
	for _, c := range []struct {
		what string
		l    []api.Hunk
		a    []api.Line
		want api.Errno
	}{
		{"at the limit", nil, x, api.OK},
		{"one more", []api.Hunk{one(400, 400, "Iy")}, x, api.ErrLimit},
		{"one more at the beginning", []api.Hunk{one(0, 0, "Iy")}, x, api.ErrLimit},
		{"one less, and one more", []api.Hunk{one(7, 7, "Ox Iy")}, x, api.OK},
		{"one less, and two more", []api.Hunk{one(7, 7, "Ox Iyz")}, x, api.ErrLimit},
		{"up to the limit", []api.Hunk{one(399, 399, "Iy")}, x[:399], api.OK},
		{"above it", []api.Hunk{one(399, 399, "Iyz")}, x[:399], api.ErrLimit},
		{"all new", []api.Hunk{at(0, 0, many(api.In, 1, 400))}, nil, api.OK},
		{"all new, and one that stays", []api.Hunk{at(0, 0, many(api.In, 1, 400))}, x[:1], api.ErrLimit},
		{"all new, in two", two(399, 1), nil, api.OK},
		{"all new, in two, and one more", two(399, 2), nil, api.ErrLimit},
		{"all new, in two, of the most lines", two(400, 400), nil, api.ErrLimit},
		{"above it, and Bare", wrong, x, api.ErrLimit},
		{"at it, and Bare", wrong, x[:399], api.ErrForm},
	} {
		if c.want == api.OK {
			checkDone(t, c.l, c.a, apply(c.l, c.a))
			continue
		}
		checkWrong(t, c.what, c.l, c.a, c.want)
	}
}

// P11.1: the form of the new text.
func TestFormOfTheNewText(t *testing.T) {
	odd, empty := api.Line{Text: "a\nb"}, api.Line{Bare: true}
	put := func(do api.Step, at int, l ...api.Line) []api.Hunk {
		h := api.Hunk{OldAt: at, NewAt: at, Edits: []api.Edit{{Do: do, Lines: l}}}
		if do == api.In {
			h.New = len(l)
		} else {
			h.Old = len(l)
		}
		return []api.Hunk{h}
	}
	lines := func(l ...api.Line) []api.Line { return l }
	x, y := api.Line{Text: "x"}, api.Line{Text: "y", Bare: true}
	for _, c := range []struct {
		what string
		l    []api.Hunk
		a    []api.Line
		want api.Errno
	}{
		{"Bare put in at the end", put(api.In, 1, y), lines(x), api.OK},
		{"Bare put in ahead", put(api.In, 0, y), lines(x), api.ErrForm},
		{"Bare put in ahead of another one", put(api.In, 1, y, x), lines(x), api.ErrForm},
		{"Bare put in twice", put(api.In, 1, y, y), lines(x), api.ErrForm},
		{"a line put in behind one that is Bare", put(api.In, 1, x), lines(y), api.ErrForm},
		{"a line put in ahead of one that is Bare", put(api.In, 0, x), lines(y), api.OK},
		{"empty and Bare put in", put(api.In, 1, empty), lines(x), api.ErrForm},
		{"an empty one put in", put(api.In, 1, api.Line{}), lines(x), api.OK},
		{"a byte 10 put in", put(api.In, 1, odd), lines(x), api.ErrForm},
		{"a byte 10 put in to nothing", put(api.In, 0, odd), nil, api.ErrForm},
		{"a byte 10 stays", put(api.In, 0, x), lines(x, odd), api.ErrForm},
		{"a byte 10 stays in the hunk", []api.Hunk{at(0, 0, []api.Edit{{Do: api.Keep, Lines: lines(odd)}, edit("Ix")})}, lines(odd), api.ErrForm},
		{"a byte 10 stays, and no hunks", nil, lines(odd), api.ErrForm},
		{"a byte 10 is taken out", put(api.Out, 0, odd), lines(odd, x), api.OK},
		{"one of two bytes 10 is taken out", put(api.Out, 0, odd), lines(odd, odd), api.ErrForm},
		{"Bare in the midst, and no hunks", nil, lines(y, x), api.ErrForm},
		{"Bare in the midst stays", put(api.Out, 2, x), lines(x, y, x, x), api.ErrForm},
		{"Bare in the midst is taken out", put(api.Out, 1, y), lines(x, y, x), api.OK},
		{"Bare in the midst is the last one then", put(api.Out, 2, x), lines(x, y, x), api.OK},
		{"empty and Bare stays", put(api.In, 0, x), lines(x, empty), api.ErrForm},
		{"empty and Bare is taken out", put(api.Out, 1, empty), lines(x, empty), api.OK},
		{"nothing is left", put(api.Out, 0, y, odd), lines(y, odd), api.OK},
	} {
		if c.want == api.OK {
			checkDone(t, c.l, c.a, apply(c.l, c.a))
			continue
		}
		checkWrong(t, c.what, c.l, c.a, c.want)
	}
}

// reverse is reckoned in another way: what is put in stands behind what is taken out, so both change places, too.
func reverse(l []api.Hunk) []api.Hunk {
	var back []api.Hunk
	for _, h := range l {
		b := api.Hunk{OldAt: h.NewAt, NewAt: h.OldAt}
		for _, e := range h.Edits {
			n := len(b.Edits)
			switch e.Do {
			case api.In:
				e.Do = api.Out
				if n > 0 && b.Edits[n-1].Do == api.In {
					b.Edits[n-1], e = e, b.Edits[n-1]
				}
			case api.Out:
				e.Do = api.In
			}
			b.Edits = append(b.Edits, e)
		}
		b.Old, b.New = len(side(b.Edits, api.Keep, api.Out)), len(side(b.Edits, api.Keep, api.In))
		back = append(back, b)
	}
	return back
}

// P11.2: Reverse, where it is told by hand.
func TestReverse(t *testing.T) {
	for _, c := range []struct {
		what    string
		l, want []api.Hunk
	}{
		{"nothing", nil, nil},
		{"an empty list", []api.Hunk{}, nil},
		{"in", []api.Hunk{one(0, 0, "Ix")}, []api.Hunk{one(0, 0, "Ox")}},
		{"out", []api.Hunk{one(3, 3, "Ka Obc")}, []api.Hunk{one(3, 3, "Ka Ibc")}},
		{"out and in", []api.Hunk{one(1, 1, "Kb Oc Ixy Kd")}, []api.Hunk{one(1, 1, "Kb Oxy Ic Kd")}},
		{"many edits", []api.Hunk{one(0, 0, "Oa Kb Ic Kd Oe Ifg Kh Oij")}, []api.Hunk{one(0, 0, "Ia Kb Oc Kd Ofg Ie Kh Iij")}},
		{"two", []api.Hunk{one(0, 0, "Oab Kc"), one(5, 3, "Kd Ix")}, []api.Hunk{one(0, 0, "Iab Kc"), one(3, 5, "Kd Ox")}},
		{"three", []api.Hunk{one(2, 2, "Ixyz"), one(4, 7, "Oab"), one(9, 10, "Oc Iuv")}, []api.Hunk{one(2, 2, "Oxyz"), one(7, 4, "Iab"), one(10, 9, "Ouv Ic")}},
		{"with none between", []api.Hunk{one(0, 0, "Ia"), one(0, 1, "Ob")}, []api.Hunk{one(0, 0, "Oa"), one(1, 0, "Ib")}},
		// The lines' form plays no part: no text is made.
		{"Bare in the midst", []api.Hunk{one(0, 0, "Ia~ Kb~ Oc~")}, []api.Hunk{one(0, 0, "Oa~ Kb~ Ic~")}},
		{"as many as there may be", adjacent(400), adjacent(400)},
	} {
		l, e := patch.Reverse(c.l)
		if e != api.OK || !sameHunks(l, c.want) || !sameHunks(l, reverse(c.l)) {
			t.Errorf("%s: %v, %d", c.what, l, e)
		}
		if e := hunk.Check(l); e != api.OK {
			t.Errorf("%s: Check of %v tells %d", c.what, l, e)
		}
		if again, e := patch.Reverse(l); e != api.OK || !sameHunks(again, c.l) {
			t.Errorf("%s: twice %v, %d", c.what, again, e)
		}
	}
}

// P11.2: Size, of hunks that are not right, too: it has no error.
func TestSize(t *testing.T) {
	for _, c := range []struct {
		what    string
		l       []api.Hunk
		in, out int
	}{
		{"nothing", nil, 0, 0},
		{"an empty list", []api.Hunk{}, 0, 0},
		{"in", []api.Hunk{one(0, 0, "Kab Ixy Kc")}, 2, 0},
		{"out", []api.Hunk{one(0, 0, "Kab Oxyz Kc")}, 0, 3},
		{"both", []api.Hunk{one(0, 0, "Oa Ibc Kd Ief Kg Oh")}, 4, 2},
		{"two", []api.Hunk{one(0, 0, "Oa Ibcd"), one(5, 7, "Oef Kg")}, 3, 3},
		{"all stays", []api.Hunk{one(0, 0, "Kabc")}, 0, 0},
		{"not normal", []api.Hunk{one(0, 0, "Ia Ob Ic I O Od Oe")}, 2, 3},
		{"other numbers", []api.Hunk{{OldAt: 7, Old: 9, NewAt: -1, New: math.MaxInt, Edits: of("Oa Ibc")}, {Old: 5}}, 2, 1},
		{"other steps", []api.Hunk{at(0, 0, []api.Edit{{Do: 0, Lines: row("a")}, {Do: 4, Lines: row("bc")}, {Do: -1, Lines: row("def")}, edit("Ig"), edit("Ohi")})}, 1, 2},
		{"in two places", []api.Hunk{one(3, 3, "Ia"), one(0, 0, "Ib Oc"), one(3, 3, "Ia")}, 3, 1},
		{"too many edits", []api.Hunk{at(0, 0, many(api.In, 900, 1)), at(0, 0, many(api.Out, 901, 1))}, 900, 901},
		{"too many lines", []api.Hunk{at(0, 0, many(api.Out, 1, 5000)), at(0, 0, many(api.In, 1, 6000))}, 6000, 5000},
		{"too many hunks", slices.Repeat([]api.Hunk{one(0, 0, "Oa Ibc")}, 1000), 2000, 1000},
	} {
		if in, out := patch.Size(c.l); in != c.in || out != c.out {
			t.Errorf("%s: %d, %d", c.what, in, out)
		}
	}
}

// checkHunks is P11.1 to P11.4 of hunks that are right and stand in a, where a and what they make are texts.
func checkHunks(t *testing.T, l []api.Hunk, a []api.Line) {
	t.Helper()
	d := apply(l, a)
	checkDone(t, l, a, d)
	checkAllOf(t, len(a), d.gone, d.stays, 0)
	checkAllOf(t, len(d.text), d.made, d.stays, 1)
	back, e := patch.Reverse(l)
	if e != api.OK || !sameHunks(back, reverse(l)) || hunk.Check(back) != api.OK {
		t.Fatalf("Reverse(%v) = %v, %d", l, back, e)
	}
	turned := done{text: a, gone: d.made, made: d.gone}
	for _, pair := range d.stays {
		turned.stays = append(turned.stays, [2]int{pair[1], pair[0]})
	}
	checkDone(t, back, d.text, turned)
	in, out := patch.Size(l)
	if in != len(d.made) || out != len(d.gone) {
		t.Fatalf("Size(%v) = %d, %d", l, in, out)
	}
	if i, o := patch.Size(back); i != out || o != in {
		t.Fatalf("Size(%v) = %d, %d", back, i, o)
	}
}

// checkAllOf is P11.4: each of n places changes or stays, and not both.
func checkAllOf(t *testing.T, n int, changes []int, stays [][2]int, which int) {
	t.Helper()
	all := slices.Clone(changes)
	for _, pair := range stays {
		all = append(all, pair[which])
	}
	slices.Sort(all)
	for i := range n {
		if len(all) != n || all[i] != i {
			t.Fatalf("%v and %v are not all of %d", changes, stays, n)
		}
	}
}

// checkScript is P11.3 of a script: what is built of it makes its new side of its old one, and back.
func checkScript(t *testing.T, s []api.Edit, context int) {
	t.Helper()
	a, b := side(s, api.Keep, api.Out), side(s, api.Keep, api.In)
	l, e := hunk.Build(s, context)
	if e != api.OK {
		t.Fatalf("Build(%v, %d) tells %d", s, context, e)
	}
	checkHunks(t, l, a)
	made, _, e := patch.Apply(l, a)
	if e != api.OK || !slices.Equal(made, b) {
		t.Fatalf("%v, context %d: Apply is %v, %d", s, context, made, e)
	}
	back, _ := patch.Reverse(l)
	if again, _, e := patch.Apply(back, b); e != api.OK || !slices.Equal(again, a) {
		t.Fatalf("%v, context %d: Apply of the Reverse is %v, %d", s, context, again, e)
	}
}

// P11.1 to P11.4: what is built of all scripts of up to 5 edits.
func TestAllShortScripts(t *testing.T) {
	for _, s := range every(5, edit("Kk"), edit("Kmn"), edit("Oa"), edit("Obc"), edit("Ix"), edit("Iyz")) {
		for context := range 3 {
			checkScript(t, s, context)
		}
	}
}

// P11.3: what is built of Make of all pairs of short texts, with a last line that is Bare or not.
func TestAllShortTexts(t *testing.T) {
	var all [][]api.Line
	for _, l := range every(4, row("a")[0], row("b")[0]) {
		all = append(all, l)
		if n := len(l); n > 0 {
			l = slices.Clone(l)
			l[n-1].Bare = true
			all = append(all, l)
		}
	}
	for _, a := range all {
		for _, b := range all {
			s, e := script.Make(a, b)
			if e != api.OK || !text.Right(a) || !text.Right(b) {
				t.Fatalf("Make(%v, %v) tells %d", a, b, e)
			}
			for context := range 3 {
				checkScript(t, s, context)
			}
		}
	}
}

// P11.1 to P11.4: hunks as nobody builds them, up to 3 with 0, 1 or 2 lines between, and 0 or 1 behind.
func TestHunksSideBySide(t *testing.T) {
	type step struct {
		ahead int
		edits string
	}
	var some []step
	for ahead := range 3 {
		for _, edits := range []string{"Ix", "Oab", "Oc Iyz", "Kd Iu Kef Og", "Oh Kij Ov Iw Kk"} {
			some = append(some, step{ahead, edits})
		}
	}
	for _, steps := range every(3, some...) {
		var l []api.Hunk
		var a []api.Line
		moved := 0
		for _, st := range steps {
			a = append(a, row("+-")[:st.ahead]...)
			h := one(len(a), len(a)+moved, st.edits)
			a = append(a, side(h.Edits, api.Keep, api.Out)...)
			moved += h.New - h.Old
			l = append(l, h)
		}
		checkHunks(t, l, a)
		checkHunks(t, l, append(a, api.Line{Text: "!", Bare: true}))
	}
}

// some is a text of n lines by a short rule, which says, too, what another one has of it.
func some(seed uint32, n, few int) ([]api.Line, []api.Line) {
	var a, b []api.Line
	for i := range n {
		seed = seed*1664525 + 1013904223
		line := row("abcdefg"[i%7 : i%7+1])[0]
		// Each is put to one alone, or to both.
		which := int(seed>>8) % few
		if which != 0 {
			a = append(a, line)
		}
		if which != 1 {
			b = append(b, line)
		}
	}
	return a, b
}

// P11.1 to P11.4: of texts up to the limit.
func TestLongTexts(t *testing.T) {
	for few := 2; few < 90; few += 3 {
		for n := 397; n <= 400; n++ {
			a, b := some(uint32(few), n, few)
			s, e := script.Make(a, b)
			if e != api.OK {
				t.Fatalf("Make tells %d", e)
			}
			for _, context := range []int{0, 1, 3, api.MaxContext} {
				checkScript(t, s, context)
			}
		}
	}
	// All of it changes, and every other line does.
	a, b := slices.Repeat(row("a"), 400), slices.Repeat(row("b"), 400)
	half := slices.Repeat(row("ab"), 200)
	for _, texts := range [][2][]api.Line{{a, b}, {a, half}, {half, b}, {a, nil}, {nil, b}, {a, a}} {
		s, _ := script.Make(texts[0], texts[1])
		checkScript(t, s, 0)
		checkScript(t, s, 3)
	}
}

// room is lines, edits or hunks with room behind them in which others stand.
func room[E any](l []E, with ...E) []E {
	return append(slices.Clone(l), with...)[: len(l) : len(l)+len(with)]
}

// P3: what is handed in stays as it is, spare room too.
func TestArgumentsStay(t *testing.T) {
	hunks := func() []api.Hunk {
		l := []api.Hunk{one(0, 0, "Oa Ix Kb"), one(4, 4, "Ke Iyz"), one(9, 9, "O!")}
		for i := range l {
			for k, e := range l[i].Edits {
				l[i].Edits[k].Lines = room(e.Lines, row("!?")...)
			}
			l[i].Edits = room(l[i].Edits, edit("I!"), edit("O?"))
		}
		return l
	}
	l, was := hunks(), hunks()
	a := room(row("abcdef"), row("!?")...)
	if d, e := asks(l[:2], a); e != [3]api.Errno{} || !slices.Equal(d.text, row("xbcdeyzf")) {
		t.Errorf("%v, %d", d, e)
	}
	patch.Reverse(l[:2])
	patch.Size(l[:2])
	if !sameHunks(l, was) || !slices.Equal(a[:8], row("abcdef!?")) {
		t.Errorf("left: %v, %v", l, a[:8])
	}
	for _, h := range l {
		if n := len(h.Edits); !same(h.Edits[n:n+2], of("I! O?")) {
			t.Errorf("behind %v: %v", h.Edits, h.Edits[n:n+2])
		}
		for _, e := range h.Edits {
			if n := len(e.Lines); !slices.Equal(e.Lines[n:n+2], row("!?")) {
				t.Errorf("behind %v: %v", e.Lines, e.Lines[n:n+2])
			}
		}
	}
}

// spoil writes into all of a list, and behind it.
func spoil[E any](l []E, with E) {
	l = l[:cap(l)]
	for i := range l {
		l[i] = with
	}
}

// P3, P6: what is answered lies in nothing that was handed in, and nothing is kept.
func TestAnswersAreNew(t *testing.T) {
	hunks := []api.Hunk{one(0, 0, "Oa Ix Kb"), one(4, 4, "Ke Iyz Kf")}
	for _, l := range [][]api.Hunk{hunks, nil} {
		a, was := row("abcdef"), deep(l)
		want := apply(was, row("abcdef"))
		for range 2 {
			d, e := asks(l, a)
			back, f := patch.Reverse(l)
			if e != [3]api.Errno{} || f != api.OK || !sameDone(d, want) || !sameHunks(back, reverse(was)) {
				t.Fatalf("%v, %d, %v, %d", d, e, back, f)
			}
			spoil(d.text, api.Line{Text: "spoilt", Bare: true})
			spoil(d.stays, [2]int{9, 9})
			spoil(d.gone, 9)
			spoil(d.made, 9)
			for _, h := range back {
				for _, e := range h.Edits {
					spoil(e.Lines, api.Line{Text: "spoilt", Bare: true})
				}
				spoil(h.Edits, api.Edit{Do: 9})
			}
			spoil(back, api.Hunk{OldAt: 9})
			if !sameHunks(l, was) || !slices.Equal(a, row("abcdef")) {
				t.Fatalf("left: %v, %v", l, a)
			}
		}
	}
}

// P3: no list of Reverse's answer lies in another one, nor in the room behind it.
func TestListsAreApart(t *testing.T) {
	l := []api.Hunk{one(0, 0, "Oa Ixy Kb Oc Kd Iu"), one(7, 8, "Ke Iz Kfg Oh"), one(12, 13, "Oi Iv")}
	want := reverse(l)
	for i := range l {
		for k := range want[i].Edits {
			back, _ := patch.Reverse(l)
			spoil(back[i].Edits[k].Lines, api.Line{Text: "spoilt", Bare: true})
			back[i].Edits[k].Lines = want[i].Edits[k].Lines
			if !sameHunks(back, want) {
				t.Fatalf("beside edit %d of hunk %d: %v", k, i, back)
			}
		}
		back, _ := patch.Reverse(l)
		spoil(back[i].Edits, api.Edit{Do: 9})
		back[i].Edits = want[i].Edits
		if !sameHunks(back, want) {
			t.Fatalf("beside hunk %d: %v", i, back)
		}
	}
}

// P1, P11.1 to P11.4: whatever is handed in is answered.
func FuzzHunks(f *testing.F) {
	f.Add("\x01ab\n\x02c\n\x03de\n\x01f", 1, 1, 0, 0, 4)
	f.Add("\x03x\n\x01\n\x02a\n\x03y\n\x01k~", 0, 0, 0, 1, -1)
	f.Add("\x04", 21, math.MaxInt, math.MinInt, 1, 1)
	f.Add("\x03a~\n\x01b", 0, 0, 0, 0, 2)
	f.Add(strings.Repeat("\x01\n", 801), -1, 0, 0, 0, 0)
	f.Fuzz(func(t *testing.T, s string, context, oldAt, newAt, before, after int) {
		var edits []api.Edit
		for _, part := range strings.Split(s, "\n") {
			if part != "" {
				e := api.Edit{Do: api.Step(part[0]), Lines: row(strings.TrimSuffix(part[1:], "~"))}
				if n := len(e.Lines); n > 0 {
					e.Lines[n-1].Bare = strings.HasSuffix(part, "~")
				}
				edits = append(edits, e)
			}
		}
		old, new := side(edits, api.Keep, api.Out), side(edits, api.Keep, api.In)
		built, _ := hunk.Build(edits, context)
		if script.Check(edits) == api.OK && text.Right(old) && text.Right(new) && max(len(old), len(new)) <= api.MaxLines && len(edits) < 100 && hunk.Check(built) == api.OK && context == max(0, min(context, api.MaxContext)) {
			checkScript(t, edits, context)
		}
		hunks := []api.Hunk{at(0, 0, edits), {OldAt: oldAt, Old: before, NewAt: newAt, New: after, Edits: edits}}
		for _, l := range [][]api.Hunk{built, hunks[:1], hunks[1:], hunks} {
			was := deep(l)
			checkAny(t, l, old)
			if !sameHunks(l, was) {
				t.Fatalf("left: %v, not %v", l, was)
			}
		}
	})
}

// checkAny is P11.1 and P11.2 of any hunks and any text: the errors in their order, or what is asked for.
func checkAny(t *testing.T, l []api.Hunk, a []api.Line) {
	t.Helper()
	want := hunk.Check(l)
	back, e := patch.Reverse(l)
	if e != want || want != api.OK && len(back) != 0 || want == api.OK && !sameHunks(back, reverse(l)) {
		t.Fatalf("Reverse(%v) = %v, %d", l, back, e)
	}
	_, want = hunk.Whole(l, a)
	if want != api.OK {
		checkWrong(t, "Whole's", l, a, want)
		return
	}
	switch d := apply(l, a); {
	case len(d.text) > api.MaxLines:
		checkWrong(t, "long", l, a, api.ErrLimit)
	case !text.Right(d.text):
		checkWrong(t, "not right", l, a, api.ErrForm)
	default:
		checkDone(t, l, a, d)
	}
}
