package hunk_test

import (
	"math"
	"slices"
	"strings"
	"testing"

	"jalousie/api"
	"jalousie/hunk"
	"jalousie/script"
)

// row is lines of which none is Bare, a letter each.
func row(letters string) []api.Line {
	var l []api.Line
	for i := range len(letters) {
		l = append(l, api.Line{Text: letters[i : i+1]})
	}
	return l
}

// bare is lines of which the last one alone is Bare.
func bare(letters string) []api.Line {
	l := row(letters)
	l[len(l)-1].Bare = true
	return l
}

// edit is what is done, and to which lines, a letter each: K, O or I first.
func edit(s string) api.Edit {
	do := map[byte]api.Step{'K': api.Keep, 'O': api.Out, 'I': api.In}[s[0]]
	return api.Edit{Do: do, Lines: row(s[1:])}
}

// of is a script by its edits' texts, with blanks between.
func of(s string) []api.Edit {
	var l []api.Edit
	for _, one := range strings.Fields(s) {
		l = append(l, edit(one))
	}
	return l
}

// at is the hunk of a script, with its lines counted.
func at(oldAt, newAt int, s []api.Edit) api.Hunk {
	return api.Hunk{OldAt: oldAt, NewAt: newAt, Edits: s, Old: len(side(s, api.Keep, api.Out)), New: len(side(s, api.Keep, api.In))}
}

// one is a hunk by its edits' texts.
func one(oldAt, newAt int, s string) api.Hunk {
	return at(oldAt, newAt, of(s))
}

func same(a, b []api.Edit) bool {
	return slices.EqualFunc(a, b, func(x, y api.Edit) bool {
		return x.Do == y.Do && slices.Equal(x.Lines, y.Lines)
	})
}

func sameHunks(a, b []api.Hunk) bool {
	return slices.EqualFunc(a, b, func(x, y api.Hunk) bool {
		return x.OldAt == y.OldAt && x.Old == y.Old && x.NewAt == y.NewAt && x.New == y.New && same(x.Edits, y.Edits)
	})
}

// deep is a script that lies in no other one's memory.
func deep(s []api.Edit) []api.Edit {
	c := slices.Clone(s)
	for i := range c {
		c[i].Lines = slices.Clone(c[i].Lines)
	}
	return c
}

func deepHunks(l []api.Hunk) []api.Hunk {
	c := slices.Clone(l)
	for i := range c {
		c[i].Edits = deep(c[i].Edits)
	}
	return c
}

// every is all rows of up to n of some elements.
func every[E any](n int, some ...E) [][]E {
	all := [][]E{nil}
	last := all
	for range n {
		var next [][]E
		for _, l := range last {
			for _, e := range some {
				next = append(next, append(slices.Clone(l), e))
			}
		}
		all = append(all, next...)
		last = next
	}
	return all
}

// side is all lines of edits to which one of two things is done.
func side(s []api.Edit, do, or api.Step) []api.Line {
	var l []api.Line
	for _, e := range s {
		if e.Do == do || e.Do == or {
			l = append(l, e.Lines...)
		}
	}
	return l
}

// many is n edits, each of so many lines.
func many(do api.Step, n, lines int) []api.Edit {
	return slices.Repeat([]api.Edit{{Do: do, Lines: make([]api.Line, lines)}}, n)
}

// normal is a script's normal form, where it has one.
func normal(t *testing.T, s []api.Edit) []api.Edit {
	t.Helper()
	n, e := script.Normal(s)
	if e != api.OK {
		t.Fatalf("Normal(%v) tells %d", s, e)
	}
	return n
}

// build is reckoned in another way: line by line, by which of them are near enough to a change.
func build(s []api.Edit, context int) []api.Hunk {
	var steps []api.Step
	var lines []api.Line
	for _, e := range s {
		for _, line := range e.Lines {
			steps, lines = append(steps, e.Do), append(lines, line)
		}
	}
	// How many lines that stay stand between a line and the change ahead of it, or behind it.
	stays := func(i, by int) int {
		n := 0
		for i += by; i >= 0 && i < len(steps); i += by {
			if steps[i] != api.Keep {
				return n
			}
			n++
		}
		return math.MaxInt / 2
	}
	var l []api.Hunk
	oldAt, newAt, open := 0, 0, false
	for i, do := range steps {
		ahead, behind := stays(i, -1), stays(i, 1)
		if do == api.Keep && ahead >= context && behind >= context && ahead+1+behind > 2*context {
			oldAt, newAt, open = oldAt+1, newAt+1, false
			continue
		}
		if !open {
			l, open = append(l, api.Hunk{OldAt: oldAt, NewAt: newAt}), true
		}
		h := &l[len(l)-1]
		if n := len(h.Edits); n == 0 || h.Edits[n-1].Do != do {
			h.Edits = append(h.Edits, api.Edit{Do: do})
		}
		e := &h.Edits[len(h.Edits)-1]
		e.Lines = append(e.Lines, lines[i])
		if do != api.In {
			oldAt, h.Old = oldAt+1, h.Old+1
		}
		if do != api.Out {
			newAt, h.New = newAt+1, h.New+1
		}
	}
	return l
}

// P9.1: Build, where it is told by hand.
func TestBuild(t *testing.T) {
	for _, c := range []struct {
		what    string
		s       string
		context int
		want    []api.Hunk
	}{
		{"the document's", "Kab Oc IX Kde", 1, []api.Hunk{one(1, 1, "Kb Oc IX Kd")}},
		{"without context", "Kab Oc IX Kde", 0, []api.Hunk{one(2, 2, "Oc IX")}},
		{"all of it", "Kab Oc IX Kde", 2, []api.Hunk{one(0, 0, "Kab Oc IX Kde")}},
		{"more context than there is", "Kab Oc IX Kde", 3, []api.Hunk{one(0, 0, "Kab Oc IX Kde")}},
		{"far more", "Kab Oc IX Kde", api.MaxContext, []api.Hunk{one(0, 0, "Kab Oc IX Kde")}},
		{"nothing", "", 3, nil},
		{"all stays", "Kabc", 3, nil},
		{"all stays, without context", "Kabc", 0, nil},
		{"edits without lines", "K O I", 3, nil},
		{"edits without lines among others", "Ka O I Kb", 1, nil},
		{"at the beginning, in", "Ix Kabc", 1, []api.Hunk{one(0, 0, "Ix Ka")}},
		{"at the beginning, out", "Oa Kbc", 0, []api.Hunk{one(0, 0, "Oa")}},
		{"at the end, in", "Kabc Ix", 0, []api.Hunk{one(3, 3, "Ix")}},
		{"at the end, out", "Kabc Od", 2, []api.Hunk{one(1, 1, "Kbc Od")}},
		{"all in", "Iabc", 3, []api.Hunk{one(0, 0, "Iabc")}},
		{"all out", "Oabc", 0, []api.Hunk{one(0, 0, "Oabc")}},
		{"two, one line between, without context", "Oa Kb Oc", 0, []api.Hunk{one(0, 0, "Oa"), one(2, 1, "Oc")}},
		{"two, as many between as they share", "Oa Kbc Id", 1, []api.Hunk{one(0, 0, "Oa Kbc Id")}},
		{"two, one more between", "Oa Kbcd Ie", 1, []api.Hunk{one(0, 0, "Oa Kb"), one(3, 2, "Kd Ie")}},
		{"two, as many between as they share, context 2", "Ia Kbcde Of Kg", 2, []api.Hunk{one(0, 0, "Ia Kbcde Of Kg")}},
		{"two, one more between, context 2", "Ia Kbcdef Og Kh", 2, []api.Hunk{one(0, 0, "Ia Kbc"), one(3, 4, "Kef Og Kh")}},
		{"three, of which two share", "Kabc Od Kef Ig Khijk Ol Im Kn", 1, []api.Hunk{one(2, 2, "Kc Od Kef Ig Kh"), one(9, 9, "Kk Ol Im Kn")}},
		{"three apart", "Ixy Kabc Od Kefg Iz", 1, []api.Hunk{one(0, 0, "Ixy Ka"), one(2, 4, "Kc Od Ke"), one(6, 7, "Kg Iz")}},
		{"not normal", "Ix Oa K Iy Kb Kc Kd I Oe", 1, []api.Hunk{one(0, 0, "Oa Ixy Kb"), one(3, 4, "Kd Oe")}},
		{"not normal, one change", "Ka Ix Ob Iy Oc Kd", 0, []api.Hunk{one(1, 1, "Obc Ixy")}},
	} {
		if l, e := hunk.Build(of(c.s), c.context); e != api.OK || !sameHunks(l, c.want) {
			t.Errorf("%s: %v, %d", c.what, l, e)
		}
	}
}

// P9.1: Build of lines of which the last ones are Bare.
func TestBuildOfBareLines(t *testing.T) {
	s := []api.Edit{edit("Kab"), {Do: api.Out, Lines: bare("c")}, edit("Ic")}
	want := []api.Hunk{at(1, 1, []api.Edit{edit("Kb"), s[1], s[2]})}
	if l, e := hunk.Build(s, 1); e != api.OK || !sameHunks(l, want) {
		t.Errorf("%v, %d", l, e)
	}
}

// P9.1, P2: Build's errors, script.Check's ahead of the context's.
func TestBuildOfWrong(t *testing.T) {
	contexts := []int{math.MinInt, -1, 0, 1, api.MaxContext - 1, api.MaxContext, api.MaxContext + 1, math.MaxInt}
	for _, c := range []struct {
		what string
		s    []api.Edit
		want api.Errno
	}{
		{"nothing", nil, api.OK},
		{"all stays", of("Kabc"), api.OK},
		{"one change", of("Kabc Od Ke"), api.OK},
		{"edits at the limit", many(api.In, 800, 1), api.OK},
		{"edits above it", many(api.In, 801, 0), api.ErrLimit},
		{"lines above it", many(api.Out, 1, 801), api.ErrLimit},
		{"a wrong step", []api.Edit{edit("Oa"), {Do: 4}}, api.ErrForm},
		{"no step", []api.Edit{{}}, api.ErrForm},
		{"a wrong step and too many lines", append(many(api.In, 1, 801), api.Edit{}), api.ErrLimit},
	} {
		for _, context := range contexts {
			want := c.want
			if want == api.OK && (context < 0 || context > 20) {
				want = api.ErrArg
			}
			if l, e := hunk.Build(c.s, context); e != want || e != api.OK && len(l) != 0 {
				t.Errorf("%s, context %d: %d hunks, %d", c.what, context, len(l), e)
			}
		}
	}
}

// checkBuild is P9.1, P9.4 and P9.5 of a script that is right, and short enough.
func checkBuild(t *testing.T, s []api.Edit, context int) {
	t.Helper()
	n := normal(t, s)
	l, e := hunk.Build(s, context)
	if e != api.OK || !sameHunks(l, build(n, context)) {
		t.Fatalf("Build(%v, %d) = %v, %d", s, context, l, e)
	}
	if e := hunk.Check(l); e != api.OK {
		t.Fatalf("Build(%v, %d) = %v: Check tells %d", s, context, l, e)
	}
	if w, e := hunk.Whole(l, side(s, api.Keep, api.Out)); e != api.OK || !same(w, n) {
		t.Fatalf("Build(%v, %d) = %v: Whole is %v, %d", s, context, l, w, e)
	}
	changes := func(l []api.Edit) []api.Edit {
		return slices.DeleteFunc(slices.Clone(l), func(e api.Edit) bool { return e.Do == api.Keep })
	}
	if j := hunk.Join(l); !same(changes(j), changes(n)) {
		t.Fatalf("Build(%v, %d) = %v: Join is %v", s, context, l, j)
	}
	for i, h := range l {
		first, last := h.Edits[0], h.Edits[len(h.Edits)-1]
		if first.Do == api.Keep && len(first.Lines) > context || last.Do == api.Keep && len(last.Lines) > context {
			t.Fatalf("Build(%v, %d) = %v: hunk %d has more context", s, context, l, i)
		}
		if i > 0 && (h.OldAt <= l[i-1].OldAt+l[i-1].Old || h.NewAt <= l[i-1].NewAt+l[i-1].New) {
			t.Fatalf("Build(%v, %d) = %v: no line ahead of hunk %d", s, context, l, i)
		}
	}
}

// P9.1, P9.4, P9.5: all scripts of up to 5 edits.
func TestAllShortScripts(t *testing.T) {
	for _, s := range every(5, edit("K"), edit("Kk"), edit("Kmn"), edit("Kopq"), edit("Oa"), edit("Ix"), edit("Iyz")) {
		for context := range 4 {
			checkBuild(t, s, context)
		}
	}
}

// some is a script of n lines by a short rule: of each few one is changed.
func some(seed uint32, n, few int) []api.Edit {
	var s []api.Edit
	for i := range n {
		seed = seed*1664525 + 1013904223
		do := api.Keep
		if int(seed>>8)%few == 0 {
			do = []api.Step{api.Out, api.In}[seed>>24&1]
		}
		s = append(s, api.Edit{Do: do, Lines: row("abcdefg"[i%7 : i%7+1])})
	}
	return s
}

// P9.1, P9.4, P9.5: longer scripts, with each context.
func TestLongerScripts(t *testing.T) {
	for few := 2; few < 80; few += 7 {
		for context := range api.MaxContext + 1 {
			checkBuild(t, some(uint32(few), api.MaxLines, few), context)
		}
	}
}

// P9.1: a script may have sides that are longer than those of hunks that are right: Build names no error for it.
func TestBuildOfMany(t *testing.T) {
	if l, e := hunk.Build(many(api.Out, 2, 400), 3); e != api.OK || len(l) != 1 || l[0].Old != 800 || l[0].New != 0 || len(l[0].Edits) != 1 {
		t.Errorf("800 lines out: %d hunks, %d", len(l), e)
	}
	l, e := hunk.Build(append(many(api.Keep, 1, 500), edit("Ix")), 3)
	if e != api.OK || len(l) != 1 || l[0].OldAt != 497 || l[0].NewAt != 497 || l[0].Old != 3 || l[0].New != 4 {
		t.Errorf("behind 500 lines: %d hunks, %d", len(l), e)
	}
	// As many hunks as there may be.
	s := slices.Repeat(of("Ka Ib"), 400)
	if l, e = hunk.Build(s, 0); e != api.OK || !sameHunks(l, build(s, 0)) || len(l) != 400 {
		t.Errorf("400 changes: %d hunks, %d", len(l), e)
	}
}

// adjacent is n hunks, each with a line that is put in at the beginning.
func adjacent(n int) []api.Hunk {
	var l []api.Hunk
	for i := range n {
		l = append(l, one(0, i, "Ix"))
	}
	return l
}

// fault is hunks with what is wrong with them.
type fault struct {
	what string
	l    []api.Hunk
	want api.Errno
}

func rightOnes() []fault {
	return []fault{
		{"nothing", nil, api.OK},
		{"no hunk", []api.Hunk{}, api.OK},
		{"one", []api.Hunk{one(1, 1, "Kb Oc IX Kd")}, api.OK},
		{"one, without context", []api.Hunk{one(7, 7, "Ox")}, api.OK},
		{"one, of more context than is built", []api.Hunk{at(0, 0, append(many(api.Keep, 1, 399), edit("Ix")))}, api.OK},
		{"two with a line between", []api.Hunk{one(0, 0, "Oa"), one(2, 1, "Ix")}, api.OK},
		{"two with none between", []api.Hunk{one(0, 0, "Oa"), one(1, 0, "Ix")}, api.OK},
		{"two at the same place", []api.Hunk{one(5, 5, "Ia"), one(5, 6, "Ix")}, api.OK},
		{"two that would be one", []api.Hunk{one(0, 0, "Ka Ix"), one(1, 2, "Oa")}, api.OK},
		{"OldAt and NewAt at the limit", []api.Hunk{one(400, 400, "Kb Oc IX Kd")}, api.OK},
		{"the second one's NewAt at the limit", []api.Hunk{at(0, 0, many(api.In, 1, 400)), one(0, 400, "Ix")}, api.OK},
		{"the second one's OldAt at the limit", []api.Hunk{at(0, 0, many(api.Out, 1, 400)), one(400, 0, "Ix")}, api.OK},
		{"Old at the limit", []api.Hunk{at(0, 0, many(api.Out, 1, 400))}, api.OK},
		{"New at the limit", []api.Hunk{at(3, 3, many(api.In, 1, 400))}, api.OK},
		{"both at the limit", []api.Hunk{at(400, 400, append(many(api.Out, 1, 400), many(api.In, 1, 400)...))}, api.OK},
		{"many edits", []api.Hunk{at(0, 0, slices.Repeat(of("Kab Oc Id"), 100))}, api.OK},
		{"hunks at the limit", adjacent(400), api.OK},
		{"Texts that no text has", []api.Hunk{at(0, 0, []api.Edit{{Do: api.In, Lines: []api.Line{{Bare: true}, {Text: "\n"}, {Text: strings.Repeat("x", 999)}}}})}, api.OK},
	}
}

func tooMany() []fault {
	wrong := api.Hunk{Edits: []api.Edit{{Do: 9}}}
	return []fault{
		{"hunks above the limit", adjacent(401), api.ErrLimit},
		{"hunks far above it", make([]api.Hunk, 100000), api.ErrLimit},
		{"edits above it", []api.Hunk{at(0, 0, many(api.In, 801, 0))}, api.ErrLimit},
		{"lines above it", []api.Hunk{at(0, 0, many(api.In, 1, 801))}, api.ErrLimit},
		{"lines above it, together", []api.Hunk{at(0, 0, many(api.Out, 9, 100))}, api.ErrLimit},
		{"lines above it, behind a wrong hunk", []api.Hunk{wrong, at(0, 0, many(api.In, 1, 801))}, api.ErrLimit},
		{"lines above it, ahead of a wrong hunk", []api.Hunk{at(0, 0, many(api.In, 1, 801)), wrong}, api.ErrLimit},
		{"edits above it, of a hunk out of place", []api.Hunk{one(3, 1, "Ix"), at(-1, 9, many(api.In, 801, 0))}, api.ErrLimit},
		{"lines above it, of a wrong step", []api.Hunk{at(0, 0, many(7, 1, 801))}, api.ErrLimit},
		{"lines at it", []api.Hunk{at(0, 0, many(api.In, 1, 800))}, api.ErrForm},
		{"edits at it", []api.Hunk{at(0, 0, many(api.In, 800, 0))}, api.ErrForm},
	}
}

func wrongOnes() []fault {
	var l []fault
	add := func(what string, hunks ...api.Hunk) {
		l = append(l, fault{what, hunks, api.ErrForm})
	}
	add("no edits", api.Hunk{})
	add("no edits, somewhere", api.Hunk{OldAt: 4, NewAt: 4})
	add("an empty list of edits", api.Hunk{Edits: []api.Edit{}})
	for _, s := range []string{"Ka", "K", "O", "I", "Ka Ib Oc", "Ia Ib", "Oa Ob", "Ka Kb Ic", "Ka O Kb", "Ka K Ib", "O Ia", "Oa I", "K Oa", "Oa K", "Ix Oa K", "Ia Oa", "Kb Iab Oab Kb"} {
		add("not a hunk's: "+s, one(0, 0, s))
		add("not a hunk's, behind one: "+s, one(0, 0, "Oa"), one(3, 2, s))
		add("not a hunk's, ahead of one: "+s, one(0, 0, s), one(9, 9+len(side(of(s), api.In, 0))-len(side(of(s), api.Out, 0)), "Oa"))
	}
	for _, do := range []api.Step{api.NoStep, 4, -1, math.MinInt, math.MaxInt} {
		add("a wrong step", at(0, 0, []api.Edit{edit("Oa"), {Do: do, Lines: row("b")}}))
		add("a wrong step without lines", at(0, 0, []api.Edit{edit("Oa"), {Do: do}}))
	}
	for _, n := range []int{math.MinInt, -1, 0, 1, 4, 5, api.MaxLines, api.MaxLines + 1, math.MaxInt} {
		h := one(2, 2, "Kab Oc Ide")
		h.Old = n
		if n != 3 {
			add("Old", h)
			add("Old, with what follows it", h, one(3+2, 4+2, "Ix"))
		}
		if h = one(2, 2, "Kab Oc Ide"); n != 4 {
			h.New = n
			add("New", h)
		}
		if h = one(2, 2, "Oc"); n != 2 {
			h.OldAt = n
			add("OldAt", h)
			h.OldAt, h.NewAt = 2, n
			add("NewAt", h)
		}
	}
	for _, n := range []int{math.MinInt, math.MinInt + 1, -2, -1, api.MaxLines + 1, math.MaxInt - 1, math.MaxInt} {
		add("both out of their range", one(n, n, "Oc"))
		add("both out of their range, behind one", one(0, 0, "Kc Ib Ka"), one(n, n, "Oc"))
		add("both out of their range, behind one that does as much on both sides", one(0, 0, "Kc Oa Ib"), one(n, n, "Oc"))
		add("both out of their range, ahead of one", one(n, n, "Oc"), one(9, 8, "Oc"))
		add("both out of their range, behind one that takes out", one(0, 0, "Oa"), one(n, n, "Ic"))
	}
	add("many edits, of which some do the same as the one ahead", at(0, 0, slices.Repeat(of("Kab Oc Id Ke"), 99)))
	add("Old above the limit", at(0, 0, many(api.Out, 1, 401)))
	add("New above the limit", at(0, 0, many(api.In, 1, 401)))
	add("the second one's NewAt above the limit", at(0, 0, many(api.In, 1, 400)), one(1, 401, "Ix"))
	add("the second one's OldAt above the limit", at(0, 0, many(api.Out, 1, 400)), one(401, 1, "Ix"))
	add("the first one moved", one(0, 1, "Ix"))
	add("the first one moved back", one(1, 0, "Ix"))
	add("the second one moved on the new side", one(0, 0, "Oa"), one(2, 2, "Ix"))
	add("the second one moved on the old side", one(0, 0, "Ia"), one(2, 2, "Ix"))
	add("the second one as if the first did nothing", one(0, 0, "Oab"), one(5, 5, "Ix"))
	add("the second one within the first", one(0, 0, "Kab Oc"), one(2, 1, "Ox"))
	add("the second one ahead of the first", one(5, 5, "Oa"), one(0, 0, "Ox"))
	add("two in the place of one", one(0, 0, "Oa"), one(0, 0, "Oa"))
	add("the third one moved", one(0, 0, "Oa"), one(2, 1, "Ix"), one(4, 5, "Oa"))
	add("the third one, by the first", one(0, 0, "Oa"), one(2, 1, "Ix"), one(3, 2, "Oa"))
	return l
}

func faults() []fault {
	return slices.Concat(rightOnes(), tooMany(), wrongOnes())
}

// P9.2, P9.3, P2: Check, and that Whole answers its error ahead of others, and nothing else.
func TestCheck(t *testing.T) {
	for _, c := range faults() {
		if e := hunk.Check(c.l); e != c.want {
			t.Errorf("%s: Check tells %d", c.what, e)
		}
		want := c.want
		if want == api.OK {
			want = api.ErrLimit
		}
		if s, e := hunk.Whole(c.l, make([]api.Line, 2000)); e != want || len(s) != 0 {
			t.Errorf("%s: Whole tells %d, %d edits", c.what, e, len(s))
		}
		if s, e := hunk.Whole(c.l, nil); c.want != api.OK && (e != c.want || len(s) != 0) {
			t.Errorf("%s: Whole of nothing tells %d, %d edits", c.what, e, len(s))
		}
	}
}

// P9.2: no number of right hunks may be another one.
func TestCheckOfEachNumber(t *testing.T) {
	l, e := hunk.Build(of("Kabc Od Kef Ig Khijk Ol Im Kn Kopq Irs Kt"), 1)
	if e != api.OK || len(l) != 3 {
		t.Fatalf("%v, %d", l, e)
	}
	for i := range l {
		for _, n := range []*int{&l[i].OldAt, &l[i].Old, &l[i].NewAt, &l[i].New} {
			was := *n
			for _, other := range []int{was - 1, was + 1, was + 2, -was - 1, 0, was + 1<<32, math.MaxInt, math.MinInt} {
				if *n = other; other != was && hunk.Check(l) != api.ErrForm {
					t.Errorf("hunk %d: %d in the place of %d: %v", i, other, was, l)
				}
			}
			*n = was
		}
	}
	if e := hunk.Check(l); e != api.OK {
		t.Errorf("then: %d", e)
	}
}

// P9.2: all hunks of two, at all places near.
func TestCheckOfPlaces(t *testing.T) {
	first := one(1, 1, "Ka Obc Id")
	for oldAt := -2; oldAt < 9; oldAt++ {
		for newAt := -2; newAt < 9; newAt++ {
			want := api.ErrForm
			if oldAt >= 4 && newAt >= 3 && oldAt-4 == newAt-3 {
				want = api.OK
			}
			if e := hunk.Check([]api.Hunk{first, one(oldAt, newAt, "Ix")}); e != want {
				t.Errorf("the second one at %d, %d: %d", oldAt, newAt, e)
			}
		}
	}
}

// P9.3: Whole, where it is told by hand.
func TestWhole(t *testing.T) {
	for _, c := range []struct {
		what string
		l    []api.Hunk
		a    string
		want string
	}{
		{"nothing", nil, "", ""},
		{"no hunks: all stays", nil, "abc", "Kabc"},
		{"no hunks in a list", []api.Hunk{}, "abc", "Kabc"},
		{"in between", []api.Hunk{one(1, 1, "Kb Oc IX Kd")}, "abcde", "Kab Oc IX Kde"},
		{"at the beginning", []api.Hunk{one(0, 0, "Ix")}, "ab", "Ix Kab"},
		{"at the end", []api.Hunk{one(2, 2, "Ix")}, "ab", "Kab Ix"},
		{"out at the end", []api.Hunk{one(1, 1, "Ob")}, "ab", "Ka Ob"},
		{"all out", []api.Hunk{one(0, 0, "Oab")}, "ab", "Oab"},
		{"to nothing", []api.Hunk{one(0, 0, "Iab")}, "", "Iab"},
		{"two", []api.Hunk{one(0, 0, "Oa Kb"), one(3, 2, "Kd Ie")}, "abcdf", "Oa Kbcd Ie Kf"},
		{"two with none between", []api.Hunk{one(0, 0, "Oa"), one(1, 0, "Ix")}, "ab", "Oa Ix Kb"},
		{"two with none between, in ahead", []api.Hunk{one(0, 0, "Ix"), one(0, 1, "Oa")}, "ab", "Oa Ix Kb"},
		{"two at the same place", []api.Hunk{one(1, 1, "Ix"), one(1, 2, "Iy")}, "ab", "Ka Ixy Kb"},
		{"two of which lines stay between", []api.Hunk{one(0, 0, "Oa Kb"), one(2, 1, "Kc Id")}, "abce", "Oa Kbc Id Ke"},
		{"alike lines", []api.Hunk{one(1, 1, "Oa")}, "aaa", "Ka Oa Ka"},
	} {
		if s, e := hunk.Whole(c.l, row(c.a)); e != api.OK || !same(s, of(c.want)) {
			t.Errorf("%s: %v, %d", c.what, s, e)
		}
	}
}

// P9.3: hunks that do not stand in a text.
func TestWholeOfOthers(t *testing.T) {
	two := []api.Hunk{one(1, 1, "Kb Oc Ix"), one(4, 4, "Oe Kf")}
	last := row("abcdef")
	last[5].Bare = true
	for _, c := range []struct {
		what string
		l    []api.Hunk
		a    []api.Line
		want api.Errno
	}{
		{"its own", two, row("abcdef"), api.OK},
		{"more behind", two, row("abcdefghi"), api.OK},
		{"others that are in no hunk", two, row("xbcyef"), api.OK},
		{"nothing", two, nil, api.ErrApply},
		{"a line less at the end", two, row("abcde"), api.ErrApply},
		{"a line less ahead", two, row("bcdef"), api.ErrApply},
		{"a line more ahead", two, row("aabcdef"), api.ErrApply},
		{"a line more between", two, row("abcddef"), api.ErrApply},
		{"another one that stays", two, row("axcdef"), api.ErrApply},
		{"another one that is taken out", two, row("abxdef"), api.ErrApply},
		{"another one in the second hunk", two, row("abcdxf"), api.ErrApply},
		{"another one at the end", two, row("abcdex"), api.ErrApply},
		{"the new text", two, row("abxdf"), api.ErrApply},
		{"Bare", two, last, api.ErrApply},
		{"in at the end", []api.Hunk{one(2, 2, "Ix")}, row("ab"), api.OK},
		{"in behind the end", []api.Hunk{one(3, 3, "Ix")}, row("ab"), api.ErrApply},
		{"in far behind the end", []api.Hunk{one(400, 400, "Ix")}, row("ab"), api.ErrApply},
		{"out at the end", []api.Hunk{one(2, 2, "Ox")}, row("ab"), api.ErrApply},
		{"out, of lines at the limit", []api.Hunk{one(400, 400, "Ox")}, make([]api.Line, 400), api.ErrApply},
		{"in, of lines at the limit", []api.Hunk{one(400, 400, "Ix")}, make([]api.Line, 400), api.OK},
		{"lines at the limit", two, append(row("abcdef"), make([]api.Line, 394)...), api.OK},
		{"lines above it", two, append(row("abcdef"), make([]api.Line, 395)...), api.ErrLimit},
		{"lines above it, others", two, make([]api.Line, 401), api.ErrLimit},
		{"lines above it, no hunks", nil, make([]api.Line, 401), api.ErrLimit},
		{"lines at it, no hunks", nil, make([]api.Line, 400), api.OK},
	} {
		s, e := hunk.Whole(c.l, c.a)
		if e != c.want || e != api.OK && len(s) != 0 {
			t.Errorf("%s: %v, %d", c.what, s, e)
		}
		if e == api.OK && !slices.Equal(side(s, api.Keep, api.Out), c.a) {
			t.Errorf("%s: %v, of %v", c.what, s, c.a)
		}
	}
}

// P9.3: the limits of all edits, with Keeps without lines among them, and of all lines.
func TestWholeOfMany(t *testing.T) {
	lines := func(n, m int) []api.Hunk {
		return []api.Hunk{at(0, 0, many(api.In, 1, n)), at(0, n, many(api.In, 1, m))}
	}
	// Of each line one more is made: a Keep, an Out and an In of each, and one more Keep.
	var apart []api.Hunk
	for i := range 267 {
		apart = append(apart, one(i, i, "Ox Iy"))
	}
	x := []api.Line(slices.Repeat(row("x"), 400))
	for _, c := range []struct {
		what string
		l    []api.Hunk
		a    []api.Line
		want api.Errno
	}{
		{"399 hunks", adjacent(399), nil, api.OK},
		{"400 hunks", adjacent(400), nil, api.ErrLimit},
		{"400 hunks, of a text", adjacent(400), row("abc"), api.ErrLimit},
		{"399 hunks, and lines at the limit", adjacent(399), x, api.OK},
		{"266 hunks of two edits", apart[:266], x, api.OK},
		{"267 hunks of two edits", apart, x, api.ErrLimit},
		{"800 lines", lines(399, 1), x, api.OK},
		{"801 lines", lines(400, 1), x, api.ErrLimit},
		{"800 lines put in", lines(400, 400), nil, api.OK},
		{"800 lines put in, and one that stays", lines(400, 400), x[:1], api.ErrLimit},
		{"801 lines, of which one stands there", []api.Hunk{at(0, 0, many(api.In, 1, 400)), one(0, 400, "Ox Iz")}, x, api.ErrLimit},
		{"801 lines, of which one does not stand there", []api.Hunk{at(0, 0, many(api.In, 1, 400)), one(0, 400, "Oy Iz")}, x, api.ErrApply},
		{"801 edits, and one does not stand there", append(apart[:266:266], one(266, 266, "Oy Iz")), x, api.ErrApply},
	} {
		s, e := hunk.Whole(c.l, c.a)
		if e != c.want || e != api.OK && len(s) != 0 {
			t.Errorf("%s: %d edits, %d", c.what, len(s), e)
		}
	}
}

// P9.3: Join, of hunks that are not right, too: it has no error.
func TestJoin(t *testing.T) {
	for _, c := range []struct {
		what string
		l    []api.Hunk
		want []api.Edit
	}{
		{"nothing", nil, nil},
		{"one", []api.Hunk{one(1, 1, "Kb Oc IX Kd")}, of("Kb Oc IX Kd")},
		{"two", []api.Hunk{one(0, 0, "Oa Kb"), one(3, 2, "Kd Ie")}, of("Oa Kb Kd Ie")},
		{"not right", []api.Hunk{{OldAt: -1, Edits: []api.Edit{edit("K"), {Do: 9, Lines: bare("a")}}}, {}, one(7, 1, "Ia Ob")}, []api.Edit{edit("K"), {Do: 9, Lines: bare("a")}, edit("Ia"), edit("Ob")}},
		{"many", []api.Hunk{at(0, 0, many(api.In, 900, 1)), at(0, 0, many(api.In, 1, 900))}, append(many(api.In, 900, 1), many(api.In, 1, 900)...)},
	} {
		if s := hunk.Join(c.l); !same(s, c.want) {
			t.Errorf("%s: %v", c.what, s)
		}
	}
}

// spare is lines with room behind them in which others stand.
func spare(letters string) []api.Line {
	return row(letters + "!?")[: len(letters) : len(letters)+2]
}

// spareEdits is edits of such lines, with room behind them in which others stand.
func spareEdits(s string) []api.Edit {
	l := append(of(s), edit("I!"), edit("O?"))
	for i := range l {
		letters := ""
		for _, line := range l[i].Lines {
			letters += line.Text
		}
		l[i].Lines = spare(letters)
	}
	return l[: len(l)-2 : len(l)]
}

// P3: what is handed in stays as it is, spare room too.
func TestArgumentsStay(t *testing.T) {
	const told = "Ix Oa Kbc K Kdef Iz Kg"
	s, a := spareEdits(told), spare("abcdefg")
	hunk.Build(s, 1)
	l := []api.Hunk{at(0, 0, spareEdits("Oa Ix Kb")), at(4, 4, spareEdits("Ke Ky Iz")), one(7, 7, "Iu"), one(8, 8, "Iw")}
	l[1].Edits = slices.Delete(l[1].Edits, 1, 2)
	l[1].Edits = append(l[1].Edits, edit("I!"), edit("O?"))[:2]
	l[1].Old, l[1].New = 1, 2
	was := deepHunks(l)
	hunk.Check(l[:2])
	hunk.Join(l[:2])
	if w, e := hunk.Whole(l[:2], a); e != api.OK || !same(w, of("Oa Ix Kbcde Iz Kfg")) {
		t.Errorf("Whole: %v, %d", w, e)
	}
	if !slices.Equal(a[:9], row("abcdefg!?")) || !sameHunks(l, was) || !same(s, of(told)) || !same(s[:cap(s)], of(told+" I! O?")) {
		t.Errorf("left: %v, %v, %v", s[:cap(s)], a[:9], l)
	}
	for _, list := range [][]api.Edit{s[:cap(s)], l[0].Edits[:cap(l[0].Edits)]} {
		for _, e := range list {
			if n := len(e.Lines); cap(e.Lines) == n+2 && !slices.Equal(e.Lines[n:n+2], row("!?")) {
				t.Errorf("behind %v: %v", e, e.Lines[n:n+2])
			}
		}
	}
}

func spoilLines(l []api.Line) {
	l = l[:cap(l)]
	for i := range l {
		l[i] = api.Line{Text: "spoilt", Bare: true}
	}
}

// spoil writes into all lists of an answer, and behind them.
func spoil(s []api.Edit) {
	for _, e := range s {
		spoilLines(e.Lines)
	}
	s = s[:cap(s)]
	for i := range s {
		s[i] = api.Edit{Do: 9}
	}
}

func spoilHunks(l []api.Hunk) {
	for _, h := range l {
		spoil(h.Edits)
	}
	l = l[:cap(l)]
	for i := range l {
		l[i] = api.Hunk{OldAt: 9}
	}
}

// P3, P6: what is answered lies in nothing that was handed in, and nothing is kept.
func TestAnswersAreNew(t *testing.T) {
	const told = "Oa Ix Kbcde Iy Kf"
	s, a := of(told), row("abcdef")
	l := []api.Hunk{one(0, 0, "Oa Ix Kb"), one(4, 4, "Ke Iy Kf")}
	was := deepHunks(l)
	for range 2 {
		built, e := hunk.Build(s, 1)
		whole, f := hunk.Whole(l, a)
		joined := hunk.Join(l)
		if e != api.OK || f != api.OK || !sameHunks(built, was) || !same(whole, of(told)) || !same(joined, of("Oa Ix Kb Ke Iy Kf")) {
			t.Errorf("%v, %d, %v, %d, %v", built, e, whole, f, joined)
		}
		spoilHunks(built)
		spoil(whole)
		spoil(joined)
	}
	if !same(s, of(told)) || !slices.Equal(a, row("abcdef")) || !sameHunks(l, was) {
		t.Errorf("left: %v, %v, %v", s, a, l)
	}
}

// P3: no list of an answer lies in another one, nor in the room behind it.
func TestListsAreApart(t *testing.T) {
	s := of("Kab Oc Ide Kfghi Ij Kkl Om Knopqr Os It Kuv")
	for context := range 4 {
		l, _ := hunk.Build(s, context)
		want := deepHunks(l)
		for i := range l {
			for k := range l[i].Edits {
				spoilLines(l[i].Edits[k].Lines)
				if !same(l[i].Edits[k+1:], want[i].Edits[k+1:]) || !sameHunks(l[i+1:], want[i+1:]) {
					t.Fatalf("context %d, behind edit %d of hunk %d: %v", context, k, i, l)
				}
			}
			spoil(l[i].Edits)
			if !sameHunks(l[i+1:], want[i+1:]) {
				t.Fatalf("context %d, behind hunk %d: %v", context, i, l)
			}
		}
		l, _ = hunk.Build(s, context)
		for i := len(l) - 1; i >= 0; i-- {
			for k := len(l[i].Edits) - 1; k >= 0; k-- {
				spoilLines(l[i].Edits[k].Lines)
				if !same(l[i].Edits[:k], want[i].Edits[:k]) || !sameHunks(l[:i], want[:i]) {
					t.Fatalf("context %d, ahead of edit %d of hunk %d: %v", context, k, i, l)
				}
			}
			spoil(l[i].Edits)
		}
		joined := hunk.Join(want)
		for k := range joined {
			spoilLines(joined[k].Lines)
		}
		if again, _ := hunk.Build(s, context); !sameHunks(again, want) {
			t.Fatalf("context %d: Join lies in its hunks: %v", context, want)
		}
	}
}

// P1, P9.1 to P9.5: whatever is handed in is answered.
func FuzzHunks(f *testing.F) {
	f.Add("\x01ab\n\x02c\n\x03de\n\x01f", 1, 1, 0, 0, 4)
	f.Add("\x03x\n\x01\n\x02a\n\x03y\n\x01k", 0, 0, 0, 1, -1)
	f.Add("\x04", 21, math.MaxInt, math.MinInt, 1, 1)
	f.Add(strings.Repeat("\x01\n", 801), -1, 0, 0, 0, 0)
	f.Fuzz(func(t *testing.T, s string, context, oldAt, newAt, before, after int) {
		var l []api.Edit
		for _, one := range strings.Split(s, "\n") {
			if one != "" {
				l = append(l, api.Edit{Do: api.Step(one[0]), Lines: row(one[1:])})
			}
		}
		was := deep(l)
		old, new := side(l, api.Keep, api.Out), side(l, api.Keep, api.In)
		wrong := script.Check(l)
		switch built, e := hunk.Build(l, context); {
		case wrong != api.OK:
			if e != wrong || len(built) != 0 {
				t.Fatalf("Build tells %d, not %d", e, wrong)
			}
		case context < 0 || context > api.MaxContext:
			if e != api.ErrArg || len(built) != 0 {
				t.Fatalf("Build with context %d tells %d", context, e)
			}
		case len(old) <= api.MaxLines && len(new) <= api.MaxLines && len(l) < api.MaxLines/2:
			checkBuild(t, l, context)
		}
		hunks := []api.Hunk{at(0, 0, l), {OldAt: oldAt, Old: before, NewAt: newAt, New: after, Edits: l}}
		for n := range len(hunks) + 1 {
			e := hunk.Check(hunks[:n])
			if w, f := hunk.Whole(hunks[:n], old); e != api.OK && (f != e || len(w) != 0) || f == api.OK && !slices.Equal(side(w, api.Keep, api.Out), old) {
				t.Fatalf("Whole tells %d, Check %d", f, e)
			}
		}
		if joined := hunk.Join(hunks); !same(joined, slices.Concat(l, l)) || !same(l, was) {
			t.Fatalf("Join(%v) = %v", hunks, joined)
		}
	})
}
