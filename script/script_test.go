package script_test

import (
	"math"
	"slices"
	"strings"
	"testing"

	"jalousie/api"
	"jalousie/intern"
	"jalousie/myers"
	"jalousie/script"
)

// row is lines of which none is Bare, a letter each.
func row(letters string) []api.Line {
	var l []api.Line
	for i := range len(letters) {
		l = append(l, api.Line{Text: letters[i : i+1]})
	}
	return l
}

// edit is what is done, and to which lines, a letter each: K, O or I first.
func edit(s string) api.Edit {
	do := map[byte]api.Step{'K': api.Keep, 'O': api.Out, 'I': api.In}[s[0]]
	return api.Edit{Do: do, Lines: row(s[1:])}
}

// of is a script by its edits' texts, with blanks between.
func of(s string) []api.Edit {
	var l []api.Edit
	for _, one := range strings.Fields(s) {
		l = append(l, edit(one))
	}
	return l
}

func same(a, b []api.Edit) bool {
	return slices.EqualFunc(a, b, func(x, y api.Edit) bool {
		return x.Do == y.Do && slices.Equal(x.Lines, y.Lines)
	})
}

func sameScripts(a, b [][]api.Edit) bool {
	return slices.EqualFunc(a, b, same)
}

// deep is a script that lies in no other one's memory.
func deep(s []api.Edit) []api.Edit {
	c := slices.Clone(s)
	for i := range c {
		c[i].Lines = slices.Clone(c[i].Lines)
	}
	return c
}

// every is all rows of up to n of some elements.
func every[E any](n int, some ...E) [][]E {
	all := [][]E{nil}
	last := all
	for range n {
		var next [][]E
		for _, l := range last {
			for _, one := range some {
				next = append(next, append(slices.Clone(l), one))
			}
		}
		all = append(all, next...)
		last = next
	}
	return all
}

// side is all lines of edits to which one of two things is done.
func side(s []api.Edit, do, or api.Step) []api.Line {
	var l []api.Line
	for _, one := range s {
		if one.Do == do || one.Do == or {
			l = append(l, one.Lines...)
		}
	}
	return l
}

func isNormal(s []api.Edit) bool {
	for i, one := range s {
		if len(one.Lines) == 0 || one.Do != api.Keep && one.Do != api.Out && one.Do != api.In {
			return false
		}
		if i > 0 && (s[i-1].Do == one.Do || s[i-1].Do == api.In && one.Do == api.Out) {
			return false
		}
	}
	return true
}

// normal is reckoned in another way: edits of a line each, of which an In and the Out behind it change places till none do.
func normal(s []api.Edit) []api.Edit {
	var ones, whole []api.Edit
	for _, one := range s {
		for _, line := range one.Lines {
			ones = append(ones, api.Edit{Do: one.Do, Lines: []api.Line{line}})
			for i := len(ones) - 1; i > 0 && ones[i].Do == api.Out && ones[i-1].Do == api.In; i-- {
				ones[i], ones[i-1] = ones[i-1], ones[i]
			}
		}
	}
	for i, one := range ones {
		if i > 0 && ones[i-1].Do == one.Do {
			last := &whole[len(whole)-1]
			last.Lines = append(last.Lines, one.Lines...)
			continue
		}
		whole = append(whole, api.Edit{Do: one.Do, Lines: slices.Clone(one.Lines)})
	}
	return whole
}

// turned is a script with Out in the place of In, and In in the place of Out.
func turned(s []api.Edit) []api.Edit {
	t := slices.Clone(s)
	for i, one := range s {
		t[i].Do = map[api.Step]api.Step{api.Keep: api.Keep, api.Out: api.In, api.In: api.Out}[one.Do]
	}
	return t
}

// many is n edits, each of so many lines.
func many(do api.Step, n, lines int) []api.Edit {
	return slices.Repeat([]api.Edit{{Do: do, Lines: make([]api.Line, lines)}}, n)
}

// faults is scripts with what is wrong with them.
func faults() []struct {
	what string
	s    []api.Edit
	want api.Errno
} {
	wrong := func(do api.Step) []api.Edit {
		return []api.Edit{edit("Ka"), {Do: do, Lines: row("b")}, edit("Ic")}
	}
	return []struct {
		what string
		s    []api.Edit
		want api.Errno
	}{
		{"nothing", nil, api.OK},
		{"no edit", []api.Edit{}, api.OK},
		{"one", of("Ka"), api.OK},
		{"not normal", of("Ib K Oa Oc K Kk Kk"), api.OK},
		{"edits at the limit", many(api.Keep, 800, 0), api.OK},
		{"edits above it", many(api.Keep, 801, 0), api.ErrLimit},
		{"edits of a line at the limit", many(api.In, 800, 1), api.OK},
		{"lines at the limit", many(api.Out, 1, 800), api.OK},
		{"lines above it", many(api.Out, 1, 801), api.ErrLimit},
		{"lines at the limit, together", many(api.In, 8, 100), api.OK},
		{"lines above it, together", append(many(api.In, 8, 100), edit("Ka")), api.ErrLimit},
		{"lines above it, of each kind", slices.Concat(many(api.Keep, 1, 267), many(api.Out, 1, 267), many(api.In, 1, 267)), api.ErrLimit},
		{"lines at it, of each kind", slices.Concat(many(api.Keep, 1, 267), many(api.Out, 1, 267), many(api.In, 1, 266)), api.OK},
		{"many edits of many lines", many(api.Keep, 400, 500), api.ErrLimit},
		{"NoStep", wrong(api.NoStep), api.ErrForm},
		{"a fourth step", wrong(4), api.ErrForm},
		{"a step below 0", wrong(-1), api.ErrForm},
		{"the least step", wrong(math.MinInt), api.ErrForm},
		{"the greatest step", wrong(math.MaxInt), api.ErrForm},
		{"no step and no lines", []api.Edit{{}}, api.ErrForm},
		{"a wrong edit at the end", append(many(api.Keep, 799, 1), api.Edit{}), api.ErrForm},
		{"a wrong edit first", append([]api.Edit{{}}, many(api.Keep, 799, 1)...), api.ErrForm},
		{"a wrong edit at the limit", many(9, 800, 1), api.ErrForm},
		{"a wrong edit, and too many edits", append([]api.Edit{{Do: 4}}, many(api.Keep, 800, 0)...), api.ErrLimit},
		{"a wrong edit, and too many lines", []api.Edit{{Do: 4, Lines: row("a")}, {Do: api.In, Lines: make([]api.Line, 800)}}, api.ErrLimit},
		{"a wrong edit of too many lines", many(4, 1, 801), api.ErrLimit},
	}
}

// P8.1, P8.2, P8.3: Check, and that the others answer its error and nothing else.
func TestCheck(t *testing.T) {
	for _, c := range faults() {
		if e := script.Check(c.s); e != c.want {
			t.Errorf("%s: Check tells %d", c.what, e)
		}
		before, after, e := script.Sides(c.s)
		if e != c.want || e != api.OK && len(before)+len(after) != 0 {
			t.Errorf("%s: Sides tells %d, %d and %d lines", c.what, e, len(before), len(after))
		}
		if n, e := script.Normal(c.s); e != c.want || e != api.OK && len(n) != 0 {
			t.Errorf("%s: Normal tells %d, %d edits", c.what, e, len(n))
		}
		if n, e := script.Invert(c.s); e != c.want || e != api.OK && len(n) != 0 {
			t.Errorf("%s: Invert tells %d, %d edits", c.what, e, len(n))
		}
		if l, e := script.Apply(c.s, side(c.s, api.Keep, api.Out)); e != c.want || e != api.OK && len(l) != 0 {
			t.Errorf("%s: Apply tells %d, %d lines", c.what, e, len(l))
		}
		// Check's error is named first, ahead of that of another text.
		want := c.want
		if want == api.OK {
			want = api.ErrApply
		}
		if l, e := script.Apply(c.s, make([]api.Line, 2000)); e != want || len(l) != 0 {
			t.Errorf("%s: Apply to another text tells %d, %d lines", c.what, e, len(l))
		}
	}
}

// P8.1: Sides.
func TestSides(t *testing.T) {
	for _, c := range []struct{ s, before, after string }{
		{"", "", ""},
		{"Ka", "a", "a"},
		{"Oa", "a", ""},
		{"Ia", "", "a"},
		{"Kab Oc Ide Kf", "abcf", "abdef"},
		{"Ia Ob Ic Od", "bd", "ac"},
		{"K O I", "", ""},
		{"Ka Kb K Kc", "abc", "abc"},
	} {
		before, after, e := script.Sides(of(c.s))
		if e != api.OK || !slices.Equal(before, row(c.before)) || !slices.Equal(after, row(c.after)) {
			t.Errorf("Sides(%s) = %v, %v, %d", c.s, before, after, e)
		}
	}
}

// P8.1: Changed, of scripts that are not right, too: it has no error.
func TestChanged(t *testing.T) {
	for _, c := range []struct {
		what string
		s    []api.Edit
		want int
	}{
		{"nothing", nil, 0},
		{"all stays", of("Kabc Kd"), 0},
		{"out and in", of("Kab Oc Ide Kf"), 3},
		{"out alone", of("Oabc"), 3},
		{"in alone", of("Iab"), 2},
		{"not normal", of("Ia Ob K Ic Od"), 4},
		{"no lines", of("K O I"), 0},
		{"too many", append(many(api.In, 3, 500), many(api.Out, 2, 400)...), 2300},
		{"other steps", []api.Edit{{Do: 0, Lines: row("ab")}, {Do: 4, Lines: row("c")}, {Do: -1, Lines: row("d")}, edit("Oe")}, 1},
	} {
		if n := script.Changed(c.s); n != c.want {
			t.Errorf("%s: %d", c.what, n)
		}
	}
}

// P8.2: Normal and Invert.
func TestNormal(t *testing.T) {
	for _, c := range []struct{ s, normal, back string }{
		{"", "", ""},
		{"K O I", "", ""},
		{"Ka", "Ka", "Ka"},
		{"Oa", "Oa", "Ia"},
		{"Ia", "Ia", "Oa"},
		{"Oa Ib", "Oa Ib", "Ob Ia"},
		{"Ib Oa", "Oa Ib", "Ob Ia"},
		{"Ka Kb", "Kab", "Kab"},
		{"Ka O I Kb", "Kab", "Kab"},
		{"Oa Ob Ic Id", "Oab Icd", "Ocd Iab"},
		{"Oa Ib Oc Id", "Oac Ibd", "Obd Iac"},
		{"Ix K Oa Iy Kk", "Oa Ixy Kk", "Oxy Ia Kk"},
		{"Ka Ib Oc Kd Oe If Kg Ih Oi", "Ka Oc Ib Kd Oe If Kg Oi Ih", "Ka Ob Ic Kd Of Ie Kg Oh Ii"},
		{"Ka Ib Kc Od Ke", "Ka Ib Kc Od Ke", "Ka Ob Kc Id Ke"},
		{"Oa Ia", "Oa Ia", "Oa Ia"},
		{"K Ka K", "Ka", "Ka"},
		{"Iab Ocd Kef", "Ocd Iab Kef", "Oab Icd Kef"},
	} {
		if n, e := script.Normal(of(c.s)); e != api.OK || !same(n, of(c.normal)) {
			t.Errorf("Normal(%s) = %v, %d", c.s, n, e)
		}
		if n, e := script.Invert(of(c.s)); e != api.OK || !same(n, of(c.back)) {
			t.Errorf("Invert(%s) = %v, %d", c.s, n, e)
		}
	}
}

// checkScript is P8.1, P8.2, P8.3 and P8.6 of a script that is right.
func checkScript(t *testing.T, s []api.Edit) {
	t.Helper()
	old, new := side(s, api.Keep, api.Out), side(s, api.Keep, api.In)
	before, after, e := script.Sides(s)
	if e != api.OK || !slices.Equal(before, old) || !slices.Equal(after, new) {
		t.Fatalf("Sides(%v) = %v, %v, %d", s, before, after, e)
	}
	n, e := script.Normal(s)
	if e != api.OK || !isNormal(n) || !same(n, normal(s)) {
		t.Fatalf("Normal(%v) = %v, %d", s, n, e)
	}
	before, after, e = script.Sides(n)
	if e != api.OK || !slices.Equal(before, old) || !slices.Equal(after, new) || script.Changed(n) != script.Changed(s) {
		t.Fatalf("Normal(%v) = %v: its sides are %v, %v", s, n, before, after)
	}
	back, e := script.Invert(s)
	if e != api.OK || !isNormal(back) || !same(back, normal(turned(s))) {
		t.Fatalf("Invert(%v) = %v, %d", s, back, e)
	}
	if again, e := script.Invert(back); e != api.OK || !same(again, n) {
		t.Fatalf("Invert(%v) = %v, %d: twice", s, again, e)
	}
	if l, e := script.Apply(s, old); e != api.OK || !slices.Equal(l, new) {
		t.Fatalf("Apply(%v) = %v, %d", s, l, e)
	}
	if l, e := script.Apply(back, new); e != api.OK || !slices.Equal(l, old) {
		t.Fatalf("Apply of the Invert of %v = %v, %d", s, l, e)
	}
	if l, e := script.Apply(s, append(slices.Clone(old), api.Line{})); e != api.ErrApply || len(l) != 0 {
		t.Fatalf("Apply(%v) with a line more = %v, %d", s, l, e)
	}
}

// P8.1, P8.2, P8.3, P8.6: all scripts of up to 5 edits.
func TestAllShortScripts(t *testing.T) {
	for _, s := range every(5, edit("K"), edit("Kk"), edit("Kmn"), edit("O"), edit("Oa"), edit("Ix"), edit("Iyz")) {
		checkScript(t, s)
	}
}

// P8.3: a script is of one text alone, line by line.
func TestApply(t *testing.T) {
	s := of("Kab Oc Ide Kf")
	bare := row("abcf")
	bare[3].Bare = true
	for _, c := range []struct {
		what string
		a    []api.Line
		want api.Errno
	}{
		{"the old side", row("abcf"), api.OK},
		{"nothing", nil, api.ErrApply},
		{"the new side", row("abdef"), api.ErrApply},
		{"another line that stays", row("xbcf"), api.ErrApply},
		{"another one at the end", row("abcx"), api.ErrApply},
		{"another one that is taken out", row("abxf"), api.ErrApply},
		{"a line less", row("abc"), api.ErrApply},
		{"a line less ahead", row("bcf"), api.ErrApply},
		{"a line more", row("abcff"), api.ErrApply},
		{"in another order", row("bacf"), api.ErrApply},
		{"Bare", bare, api.ErrApply},
		{"far too long", make([]api.Line, 100000), api.ErrApply},
	} {
		l, e := script.Apply(s, c.a)
		if e != c.want || e == api.OK && !slices.Equal(l, row("abdef")) || e != api.OK && len(l) != 0 {
			t.Errorf("%s: %v, %d", c.what, l, e)
		}
	}
	if l, e := script.Apply(nil, nil); e != api.OK || len(l) != 0 {
		t.Errorf("nothing to nothing: %v, %d", l, e)
	}
	if l, e := script.Apply(nil, row("a")); e != api.ErrApply || len(l) != 0 {
		t.Errorf("nothing to a line: %v, %d", l, e)
	}
}

// P8.3: a text may be made that is longer than another one may be.
func TestApplyOfMany(t *testing.T) {
	l, e := script.Apply(many(api.In, 800, 1), nil)
	if e != api.OK || len(l) != 800 {
		t.Errorf("all in: %d, %d", len(l), e)
	}
	if l, e = script.Apply(many(api.Keep, 4, 200), make([]api.Line, 800)); e != api.OK || len(l) != 800 {
		t.Errorf("all stays: %d, %d", len(l), e)
	}
}

// P8.3: Make.
func TestMake(t *testing.T) {
	bare, line := []api.Line{{Text: "a", Bare: true}}, row("a")
	for _, c := range []struct {
		what string
		a, b []api.Line
		want []api.Edit
	}{
		{"nothing", nil, nil, nil},
		{"the same", row("abc"), row("abc"), of("Kabc")},
		{"the document's", row("ab"), row("ac"), of("Ka Ob Ic")},
		{"all out", row("ab"), nil, of("Oab")},
		{"all in", nil, row("ab"), of("Iab")},
		{"two changes", row("abcd"), row("axyd"), of("Ka Obc Ixy Kd")},
		{"two changes with a line between", row("abc"), row("xby"), of("Oa Ix Kb Oc Iy")},
		{"turned", row("ab"), row("ba"), of("Oa Kb Ia")},
		{"one more of alike ones", row("aa"), row("aaa"), of("Kaa Ia")},
		{"one less of alike ones", row("aaa"), row("aa"), of("Kaa Oa")},
		{"Myers's own", row("abcabba"), row("cbabac"), of("Oab Kc Oa Kb Ia Kba Ic")},
		{"a newline less", line, bare, []api.Edit{{Do: api.Out, Lines: line}, {Do: api.In, Lines: bare}}},
		{"a newline more", bare, line, []api.Edit{{Do: api.Out, Lines: bare}, {Do: api.In, Lines: line}}},
		{"Bare ones stay", bare, bare, []api.Edit{{Do: api.Keep, Lines: bare}}},
	} {
		if s, e := script.Make(c.a, c.b); e != api.OK || !same(s, c.want) {
			t.Errorf("%s: %v, %d", c.what, s, e)
		}
	}
}

// P8.3: Make's limits.
func TestMakeOfMany(t *testing.T) {
	var a, b []api.Line
	for i := range api.MaxLines + 1 {
		a = append(a, api.Line{Text: strings.Repeat("a", i)})
		b = append(b, api.Line{Text: strings.Repeat("b", i+1)})
	}
	most := api.MaxLines
	for _, c := range []struct {
		what string
		a, b []api.Line
		want api.Errno
	}{
		{"both at the limit", a[:most], b[:most], api.OK},
		{"a at the limit", a[:most], nil, api.OK},
		{"b at the limit", nil, b[:most], api.OK},
		{"a above it", a, nil, api.ErrLimit},
		{"b above it", nil, b, api.ErrLimit},
		{"a above it, b at it", a, b[:most], api.ErrLimit},
		{"b above it, a at it", a[:most], b, api.ErrLimit},
		{"the same above it", a, a, api.ErrLimit},
		{"far above it", make([]api.Line, 1000000), nil, api.ErrLimit},
	} {
		s, e := script.Make(c.a, c.b)
		if e != c.want || e != api.OK && len(s) != 0 {
			t.Errorf("%s: %d, %d edits", c.what, e, len(s))
		}
		if l, f := script.Apply(s, c.a); e == api.OK && (f != api.OK || !slices.Equal(l, c.b)) {
			t.Errorf("%s: makes %d lines, %d", c.what, len(l), f)
		}
	}
	if s, _ := script.Make(a[:most], b[:most]); len(s) != 2 || script.Changed(s) != 2*most {
		t.Errorf("of unlike ones: %d edits, %d changed", len(s), script.Changed(s))
	}
}

// stays is how many lines can stay at most, tried in all ways.
func stays(a, b []api.Line) int {
	if len(a) == 0 || len(b) == 0 {
		return 0
	}
	most := max(stays(a[1:], b), stays(a, b[1:]))
	if a[0] == b[0] {
		most = max(most, 1+stays(a[1:], b[1:]))
	}
	return most
}

// checkMake is P8.3 and P8.4 of two texts.
func checkMake(t *testing.T, a, b []api.Line) {
	t.Helper()
	s, e := script.Make(a, b)
	if e != api.OK || !isNormal(s) {
		t.Fatalf("Make(%v, %v) = %v, %d", a, b, s, e)
	}
	var ones []api.Edit
	i, j := 0, 0
	rows := intern.Numbers(a, b)
	for _, do := range myers.Steps(rows[0], rows[1]) {
		one := api.Edit{Do: do}
		if do == api.In {
			one.Lines = []api.Line{b[j]}
		} else {
			one.Lines = []api.Line{a[i]}
			i++
		}
		if do != api.Out {
			j++
		}
		ones = append(ones, one)
	}
	if !same(s, normal(ones)) {
		t.Fatalf("Make(%v, %v) = %v, not %v", a, b, s, normal(ones))
	}
	if l, e := script.Apply(s, a); e != api.OK || !slices.Equal(l, b) {
		t.Fatalf("Make(%v, %v) = %v: makes %v, %d", a, b, s, l, e)
	}
	back, e := script.Invert(s)
	if l, f := script.Apply(back, b); e != api.OK || f != api.OK || !slices.Equal(l, a) {
		t.Fatalf("Make(%v, %v) = %v: back %v, %d, %d", a, b, s, l, e, f)
	}
}

// P8.3, P8.4, P8.5: Make of all pairs of short texts.
func TestMakeOfAll(t *testing.T) {
	x, bare, y := api.Line{Text: "x"}, api.Line{Text: "x", Bare: true}, api.Line{Text: "y"}
	all := every(4, x, bare, y)
	for _, a := range all {
		for _, b := range all {
			checkMake(t, a, b)
			s, _ := script.Make(a, b)
			if n, least := script.Changed(s), len(a)+len(b)-2*stays(a, b); n != least {
				t.Fatalf("Make(%v, %v) = %v changes %d, not %d", a, b, s, n, least)
			}
		}
	}
}

// P8.5: of all scripts that make one text of another one none changes less.
func TestNoneIsShorter(t *testing.T) {
	for _, s := range every(6, edit("Ka"), edit("Kb"), edit("Oa"), edit("Ob"), edit("Ia"), edit("Ib")) {
		a, b := side(s, api.Keep, api.Out), side(s, api.Keep, api.In)
		if made, e := script.Make(a, b); e != api.OK || script.Changed(made) > script.Changed(s) {
			t.Fatalf("Make(%v, %v) = %v, %d, but %v", a, b, made, e, s)
		}
	}
}

// spare is lines with room behind them in which others stand.
func spare(letters string) []api.Line {
	return row(letters + "!?")[: len(letters) : len(letters)+2]
}

// P3: what is handed in stays as it is, spare room too.
func TestArgumentsStay(t *testing.T) {
	a, b := spare("abc"), spare("xbyz")
	s := []api.Edit{{Do: api.In, Lines: spare("x")}, {Do: api.Out, Lines: spare("a")}, {Do: api.Keep, Lines: spare("b")}, {Do: api.Keep, Lines: spare("")}, {Do: api.Keep, Lines: spare("c")}, {Do: api.Out}, {Do: api.In, Lines: spare("y")}, {Do: api.In, Lines: spare("z")}}
	short := s[:7]
	script.Make(a, b)
	script.Check(short)
	script.Changed(short)
	script.Sides(short)
	script.Normal(short)
	script.Invert(short)
	script.Apply(short, a)
	if !slices.Equal(a[:5], row("abc!?")) || !slices.Equal(b[:6], row("xbyz!?")) {
		t.Errorf("left: %v, %v", a[:5], b[:6])
	}
	if !same(s, of("Ix Oa Kb K Kc O Iy Iz")) {
		t.Errorf("left: %v", s)
	}
	for _, one := range s {
		if n := len(one.Lines); one.Lines != nil && !slices.Equal(one.Lines[n:n+2], row("!?")) {
			t.Errorf("behind %v: %v", one, one.Lines[n:n+2])
		}
	}
}

// spoil writes into all lists of an answer, and behind them.
func spoil(s []api.Edit) {
	for i := range s {
		spoilLines(s[i].Lines)
		s[i] = api.Edit{Do: 9}
	}
	for i := range s[len(s):cap(s)] {
		s[len(s):cap(s)][i] = api.Edit{Do: 8}
	}
}

func spoilLines(l []api.Line) {
	l = l[:cap(l)]
	for i := range l {
		l[i] = api.Line{Text: "spoilt", Bare: true}
	}
}

// P3, P6: what is answered lies in nothing that was handed in, and nothing is kept.
func TestAnswersAreNew(t *testing.T) {
	a, b, s := row("abc"), row("xbc"), of("Oa Ix Kb Kc")
	for range 2 {
		made, _ := script.Make(a, b)
		right, _ := script.Normal(s)
		back, _ := script.Invert(s)
		before, after, _ := script.Sides(s)
		applied, _ := script.Apply(s, a)
		if !sameScripts([][]api.Edit{made, right, back}, [][]api.Edit{of("Oa Ix Kbc"), of("Oa Ix Kbc"), of("Ox Ia Kbc")}) {
			t.Errorf("%v, %v, %v", made, right, back)
		}
		if !slices.Equal(before, a) || !slices.Equal(after, b) || !slices.Equal(applied, b) {
			t.Errorf("%v, %v, %v", before, after, applied)
		}
		spoil(made)
		spoil(right)
		spoil(back)
		spoilLines(before)
		if !slices.Equal(after, b) {
			t.Errorf("one side lies in the other one: %v", after)
		}
		spoilLines(after)
		spoilLines(applied)
	}
	if !slices.Equal(a, row("abc")) || !slices.Equal(b, row("xbc")) || !same(s, of("Oa Ix Kb Kc")) {
		t.Errorf("left: %v, %v, %v", a, b, s)
	}
}

// P3: no edit of an answer lies in another one, nor in the room behind it.
func TestEditsAreApart(t *testing.T) {
	a, b := row("abcdefg"), row("xbcyyfz")
	made, _ := script.Make(a, b)
	want := deep(made)
	for i := range made {
		spoilLines(made[i].Lines)
		if !same(made[i+1:], want[i+1:]) {
			t.Fatalf("behind edit %d: %v", i, made[i+1:])
		}
	}
	right, _ := script.Normal(want)
	if !same(right, want) {
		t.Fatalf("Normal(%v) = %v", want, right)
	}
	for i := len(right) - 1; i >= 0; i-- {
		spoilLines(right[i].Lines)
		if !same(right[:i], want[:i]) {
			t.Fatalf("ahead of edit %d: %v", i, right[:i])
		}
	}
}

// P1, P8.1 to P8.6: whatever is handed in is answered.
func FuzzScript(f *testing.F) {
	f.Add("\x01ab\n\x02c\n\x03de\n\x01f", "abcf")
	f.Add("\x03x\n\x01\n\x02a\n\x03y\n\x01k", "")
	f.Add("\x04", "\xff\x00")
	f.Add(strings.Repeat("\x01\n", 801), "")
	f.Fuzz(func(t *testing.T, s, u string) {
		var l []api.Edit
		for _, one := range strings.Split(s, "\n") {
			if one != "" {
				l = append(l, api.Edit{Do: api.Step(one[0]), Lines: row(one[1:])})
			}
		}
		was := deep(l)
		if script.Check(l) == api.OK {
			checkScript(t, l)
		} else if _, _, e := script.Sides(l); e != script.Check(l) {
			t.Errorf("Sides(%v) tells %d", l, e)
		}
		a, b := row(strings.ReplaceAll(s, "\n", "")), row(u)
		if len(a) <= api.MaxLines && len(b) <= api.MaxLines {
			checkMake(t, a, b)
		} else if made, e := script.Make(a, b); e != api.ErrLimit || len(made) != 0 {
			t.Errorf("Make of %d and %d lines: %v, %d", len(a), len(b), made, e)
		}
		if !same(l, was) {
			t.Errorf("left: %v, not %v", l, was)
		}
	})
}
