package unified_test

import (
	"regexp"
	"slices"
	"strconv"
	"strings"
	"testing"

	"jalousie/api"
	"jalousie/hunk"
	"jalousie/unified"
)

const bare = `\ No newline at end of file`

// row is lines by their texts; what ends with a ~ is Bare, without it.
func row(texts ...string) []api.Line {
	var l []api.Line
	for _, s := range texts {
		rest, is := strings.CutSuffix(s, "~")
		l = append(l, api.Line{Text: rest, Bare: is})
	}
	return l
}

// edit is what is done, and to which lines.
func edit(do api.Step, texts ...string) api.Edit {
	return api.Edit{Do: do, Lines: row(texts...)}
}

// at is the hunk of some edits, with its lines counted.
func at(oldAt, newAt int, s ...api.Edit) api.Hunk {
	h := api.Hunk{OldAt: oldAt, NewAt: newAt, Edits: s}
	for _, one := range s {
		if one.Do != api.In {
			h.Old += len(one.Lines)
		}
		if one.Do != api.Out {
			h.New += len(one.Lines)
		}
	}
	return h
}

// lines is a text of lines that all end with a byte 10.
func lines(l ...string) string {
	return strings.Join(append(l, ""), "\n")
}

func same(a, b []api.Edit) bool {
	return slices.EqualFunc(a, b, func(x, y api.Edit) bool {
		return x.Do == y.Do && slices.Equal(x.Lines, y.Lines)
	})
}

func sameHunks(a, b []api.Hunk) bool {
	return slices.EqualFunc(a, b, func(x, y api.Hunk) bool {
		return x.OldAt == y.OldAt && x.Old == y.Old && x.NewAt == y.NewAt && x.New == y.New && same(x.Edits, y.Edits)
	})
}

// deep is hunks that lie in no others' memory.
func deep(l []api.Hunk) []api.Hunk {
	c := slices.Clone(l)
	for i := range c {
		c[i].Edits = slices.Clone(c[i].Edits)
		for k := range c[i].Edits {
			c[i].Edits[k].Lines = slices.Clone(c[i].Edits[k].Lines)
		}
	}
	return c
}

// every is all rows of up to n of some elements.
func every[E any](n int, some ...E) [][]E {
	all := [][]E{nil}
	last := all
	for range n {
		var next [][]E
		for _, l := range last {
			for _, one := range some {
				next = append(next, append(slices.Clone(l), one))
			}
		}
		all = append(all, next...)
		last = next
	}
	return all
}

// pair is hunks and their text.
type pair struct {
	what string
	l    []api.Hunk
	text string
}

func pairs() []pair {
	long := strings.Repeat("x", api.MaxText)
	var many, manyLines []string
	for i := range 400 {
		many = append(many, "@@ -0,0 +"+strconv.Itoa(i+1)+",1 @@", "+")
		manyLines = append(manyLines, "-")
	}
	var manyHunks []api.Hunk
	for i := range 400 {
		manyHunks = append(manyHunks, at(0, i, edit(api.In, "")))
	}
	return []pair{
		{"nothing", nil, ""},
		{"the document's", []api.Hunk{at(0, 0, edit(api.Keep, "a"), edit(api.Out, "b"))}, lines("@@ -1,2 +1,1 @@", " a", "-b")},
		{"one that is put in", []api.Hunk{at(0, 0, edit(api.In, "x"))}, lines("@@ -0,0 +1,1 @@", "+x")},
		{"one that is taken out", []api.Hunk{at(0, 0, edit(api.Out, "x"))}, lines("@@ -1,1 +0,0 @@", "-x")},
		{"one that is put in behind others", []api.Hunk{at(3, 3, edit(api.In, "x"))}, lines("@@ -3,0 +4,1 @@", "+x")},
		{"one that is taken out behind others", []api.Hunk{at(3, 3, edit(api.Out, "x"))}, lines("@@ -4,1 +3,0 @@", "-x")},
		{"all three", []api.Hunk{at(9, 9, edit(api.Keep, "a", "b"), edit(api.Out, "c"), edit(api.In, "d", "e"), edit(api.Keep, "f"))}, lines("@@ -10,4 +10,5 @@", " a", " b", "-c", "+d", "+e", " f")},
		{"two", []api.Hunk{at(1, 1, edit(api.Out, "two"), edit(api.In, "zwei", "drei")), at(3, 4, edit(api.Out, "four"))}, lines("@@ -2,1 +2,2 @@", "-two", "+zwei", "+drei", "@@ -4,1 +4,0 @@", "-four")},
		{"two with none between", []api.Hunk{at(0, 0, edit(api.Out, "a")), at(1, 0, edit(api.In, "b"))}, lines("@@ -1,1 +0,0 @@", "-a", "@@ -1,0 +1,1 @@", "+b")},
		{"empty lines", []api.Hunk{at(0, 0, edit(api.Keep, ""), edit(api.Out, "", ""), edit(api.In, ""))}, lines("@@ -1,3 +1,2 @@", " ", "-", "-", "+")},
		{"Bare ones at the end", []api.Hunk{at(0, 0, edit(api.Out, "a~"), edit(api.In, "b~"))}, lines("@@ -1,1 +1,1 @@", "-a", bare, "+b", bare)},
		{"a Bare one that stays", []api.Hunk{at(0, 0, edit(api.In, "b"), edit(api.Keep, "a~"))}, lines("@@ -1,1 +1,2 @@", "+b", " a", bare)},
		{"Bare ones anywhere", []api.Hunk{at(0, 0, edit(api.Keep, "a~", "b~"), edit(api.In, "c~", "d", "e~")), at(2, 5, edit(api.In, "f"))}, lines("@@ -1,2 +1,5 @@", " a", bare, " b", bare, "+c", bare, "+d", "+e", bare, "@@ -2,0 +6,1 @@", "+f")},
		{"lines as those of the form", []api.Hunk{at(0, 0, edit(api.Keep, "@@ -1,1 +1,1 @@", bare), edit(api.Out, "-a", " b"), edit(api.In, "+c", bare+"~"))}, lines("@@ -1,4 +1,4 @@", " @@ -1,1 +1,1 @@", " "+bare, "--a", "- b", "++c", "+"+bare, bare)},
		{"other bytes", []api.Hunk{at(0, 0, edit(api.In, "\x00\xff", "\r", "\t ", "\u010a", "~"+"~"))}, lines("@@ -0,0 +1,5 @@", "+\x00\xff", "+\r", "+\t ", "+\u010a", "+~", bare)},
		{"long lines", []api.Hunk{at(0, 0, edit(api.Keep, long), edit(api.Out, long), edit(api.In, long+"~"))}, lines("@@ -1,2 +1,2 @@", " "+long, "-"+long, "+"+long, bare)},
		{"places at the limit", []api.Hunk{at(400, 400, edit(api.In, "x"), edit(api.Keep, "y"))}, lines("@@ -401,1 +401,2 @@", "+x", " y")},
		{"places at the limit, of none", []api.Hunk{at(400, 400, edit(api.In, "x"))}, lines("@@ -400,0 +401,1 @@", "+x")},
		{"lines at the limit", []api.Hunk{at(0, 0, edit(api.Out, make([]string, 400)...))}, lines(append([]string{"@@ -1,400 +0,0 @@"}, manyLines...)...)},
		{"hunks at the limit", manyHunks, lines(many...)},
	}
}

// P10.1, P10.2, P10.3: hunks and their texts, both ways.
func TestBothWays(t *testing.T) {
	for _, c := range pairs() {
		if b, e := unified.Print(c.l); e != api.OK || string(b) != c.text {
			t.Errorf("%s: Print tells %q, %d", c.what, b, e)
		}
		if l, line, e := unified.Parse([]byte(c.text)); e != api.OK || line != 0 || !sameHunks(l, c.l) {
			t.Errorf("%s: Parse tells %v, %d, %d", c.what, l, line, e)
		}
	}
}

// big is a hunk whose text has so many bytes, and that text.
func big(n int) (api.Hunk, string) {
	var texts []string
	said := "@@ -0,0 +1,300 @@\n"
	left := n - len(said)
	for i := range 300 {
		size := left - 2*(300-i)
		size = min(size, api.MaxText)
		texts = append(texts, strings.Repeat("x", size))
		said += "+" + texts[i] + "\n"
		left -= size + 2
	}
	return at(0, 0, edit(api.In, texts...)), said
}

// P10.1, P2: Print's errors.
func TestPrintOfWrong(t *testing.T) {
	long := strings.Repeat("x", api.MaxText+1)
	full, _ := big(api.MaxPatch)
	more, _ := big(api.MaxPatch + 1)
	two := func(a, b string) []api.Hunk {
		return []api.Hunk{at(0, 0, edit(api.Out, a)), at(1, 0, edit(api.In, b))}
	}
	crowd := make([]api.Hunk, 401)
	for _, c := range []struct {
		what string
		l    []api.Hunk
		want api.Errno
	}{
		{"as many bytes as may be", []api.Hunk{full}, api.OK},
		{"one more", []api.Hunk{more}, api.ErrLimit},
		{"as many bytes in two hunks", []api.Hunk{full, at(0, 300, edit(api.In, "x"))}, api.ErrLimit},
		{"a line that is too long", []api.Hunk{at(0, 0, edit(api.Keep, "a"), edit(api.In, "b", long))}, api.ErrLimit},
		{"one that stays is too long", []api.Hunk{at(0, 0, edit(api.Keep, long), edit(api.In, "b"))}, api.ErrLimit},
		{"one that is taken out is too long", two(long, "a"), api.ErrLimit},
		{"one of the second hunk is too long", two("a", long), api.ErrLimit},
		{"a Bare one is too long", two("a", long+"~"), api.ErrLimit},
		{"a byte 10", two("a\nb", "a"), api.ErrForm},
		{"a byte 10 in the second hunk", two("a", "\n"), api.ErrForm},
		{"a byte 10 at the end", two("a", "a\n"), api.ErrForm},
		{"a byte 10 in one that stays", []api.Hunk{at(0, 0, edit(api.Keep, "a", "\nb"), edit(api.In, "b"))}, api.ErrForm},
		{"a byte 10 in a Bare one", two("a", "a\n~"), api.ErrForm},
		{"Bare and empty", two("~", "a"), api.ErrForm},
		{"Bare and empty in the second hunk", two("a", "~"), api.ErrForm},
		{"Bare and empty, and stays", []api.Hunk{at(0, 0, edit(api.In, "b"), edit(api.Keep, "~"))}, api.ErrForm},
		{"a byte 10, ahead of a line that is too long", two("\n", long), api.ErrLimit},
		{"a byte 10 in a line that is too long", two("\n"+long, "a"), api.ErrLimit},
		{"Bare and empty, ahead of a line that is too long", two("~", long), api.ErrLimit},
		{"a byte 10 in more than may be", []api.Hunk{more, at(0, 300, edit(api.In, "\n"))}, api.ErrForm},
		{"out of place", []api.Hunk{at(0, 1, edit(api.In, "x"))}, api.ErrForm},
		{"out of place, and a line is too long", []api.Hunk{at(0, 1, edit(api.In, long))}, api.ErrForm},
		{"not normal, and more than may be", []api.Hunk{more, at(0, 0)}, api.ErrForm},
		{"nothing changes", []api.Hunk{at(0, 0, edit(api.Keep, "x"))}, api.ErrForm},
		{"a wrong step", []api.Hunk{{Edits: []api.Edit{{Do: 4}}}}, api.ErrForm},
		{"too many hunks", crowd, api.ErrLimit},
		{"too many lines, and a byte 10", []api.Hunk{at(0, 0, edit(api.In, "\n")), at(0, 1, edit(api.In, make([]string, 801)...))}, api.ErrLimit},
	} {
		if b, e := unified.Print(c.l); e != c.want || e != api.OK && len(b) != 0 {
			t.Errorf("%s: %.30q, %d", c.what, b, e)
		}
	}
}

// P10.1, P10.2, P10.3: texts as long as may be.
func TestLongTexts(t *testing.T) {
	for _, n := range []int{api.MaxPatch - 1, api.MaxPatch} {
		h, said := big(n)
		if b, e := unified.Print([]api.Hunk{h}); e != api.OK || string(b) != said || len(b) != n {
			t.Errorf("Print of %d bytes: %d, %d", n, len(b), e)
		}
		if l, line, e := unified.Parse([]byte(said)); e != api.OK || line != 0 || !sameHunks(l, []api.Hunk{h}) {
			t.Errorf("Parse of %d bytes: %d, %d", n, line, e)
		}
	}
	_, more := big(api.MaxPatch + 1)
	for _, s := range []string{more, strings.Repeat("\n", api.MaxPatch+1), strings.Repeat("x", 1<<20)} {
		if l, line, e := unified.Parse([]byte(s)); e != api.ErrLimit || line != 0 || len(l) != 0 {
			t.Errorf("Parse of %d bytes: %d, %d", len(s), line, e)
		}
	}
	if l, line, e := unified.Parse([]byte(strings.Repeat("\n", api.MaxPatch))); e != api.ErrForm || line != 1 || len(l) != 0 {
		t.Errorf("Parse of wrong bytes: %d, %d", line, e)
	}
}

// P10.2: lines that are no hunk's first one, or have ranges that may not be.
func TestParseOfHeads(t *testing.T) {
	for _, head := range []string{
		"", " ", "x", "@@", "@@ @@", "@@ -1,1 @@", "@@ +1,1 @@", "@@ -1,1 +1,1", "-1,1 +1,1 @@", "-1,1 +1,1",
		"@@ -1,1 +1,1 @@ ", " @@ -1,1 +1,1 @@", "@@  -1,1 +1,1 @@", "@@ -1,1  +1,1 @@", "@@ -1,1 +1,1  @@", "@@ -1,1 +1,1 @@\r", "@@ -1,1 +1,1 @@ x", "@@ -1,1 +1,1 @@x",
		"@ -1,1 +1,1 @@", "@@ -1,1 +1,1 @", "@@@ -1,1 +1,1 @@", "@@ -1,1 +1,1 @@@", "@@-1,1 +1,1 @@", "@@ -1,1 +1,1@@", "@@\t-1,1\t+1,1\t@@",
		"@@ +1,1 -1,1 @@", "@@ -1,1 -1,1 @@", "@@ +1,1 +1,1 @@", "@@ 1,1 +1,1 @@", "@@ -1,1 1,1 @@", "@@ --1,1 +1,1 @@", "@@ -1,1 ++1,1 @@",
		"@@ -1 +1,1 @@", "@@ -1,1 +1 @@", "@@ -1 +1 @@", "@@ -1, +1,1 @@", "@@ -1,1 +1, @@", "@@ -,1 +1,1 @@", "@@ -1,1 +,1 @@", "@@ - + @@", "@@ -, +, @@",
		"@@ -1,1,1 +1,1 @@", "@@ -1,1 +1,1,1 @@", "@@ -1.1 +1,1 @@", "@@ -1,-1 +1,1 @@", "@@ -1,1 +1,+1 @@", "@@ -x,1 +1,1 @@", "@@ -1,x +1,1 @@", "@@ -1,1 +x,1 @@", "@@ -1,1 +1,x @@",
		"@@ -01,1 +1,1 @@", "@@ -1,01 +1,1 @@", "@@ -1,1 +01,1 @@", "@@ -1,1 +1,01 @@", "@@ -00,0 +1,1 @@", "@@ -1,00 +1,1 @@", "@@ -1,?  +1,1 @@", "@@ -?,1 +1,1 @@",
		"@@ -0,1 +1,1 @@", "@@ -1,1 +0,1 @@", "@@ -0,1 +0,1 @@", "@@ -0,400 +1,1 @@", "@@ -1,1 +0,400 @@",
		"@@ -402,1 +402,1 @@", "@@ -402,1 +401,1 @@", "@@ -401,1 +402,1 @@", "@@ -402,0 +401,1 @@", "@@ -401,1 +402,0 @@", "@@ -402,0 +402,0 @@",
		"@@ -1,401 +1,1 @@", "@@ -1,1 +1,401 @@", "@@ -1,401 +1,401 @@", "@@ -1,2147483647 +1,1 @@", "@@ -2147483647,1 +1,1 @@", "@@ -1,1 +2147483648,1 @@", "@@ -1,4294967297 +1,1 @@", "@@ -18446744073709551617,1 +1,1 @@", "@@ -0,9223372036854775808 +1,1 @@",
		"@@ -1,1 +1,1 @@" + strings.Repeat("x", 300), "-a", "+a", " a", bare, "--- a", "+++ b", "diff", "#",
	} {
		for _, c := range []struct {
			s    string
			want int
		}{
			{lines(head), 1},
			{head, 1},
			{lines(head, "-a", "+b"), 1},
			{lines("@@ -1,1 +0,0 @@", "-a", head, "x"), 3},
			{lines("@@ -0,0 +0,0 @@", head), 2},
		} {
			if head == "" && c.s == "" || head == bare && c.want == 3 {
				continue
			}
			if l, line, e := unified.Parse([]byte(c.s)); e != api.ErrForm || line != c.want || len(l) != 0 {
				t.Errorf("Parse(%.60q) = %v, %d, %d", c.s, l, line, e)
			}
		}
	}
}

// P10.2: ranges at the edges of what may be are no line's fault, whatever becomes of the hunks.
func TestParseOfRangesAtTheEdges(t *testing.T) {
	for _, head := range []string{"@@ -0,0 +0,0 @@", "@@ -1,0 +0,0 @@", "@@ -401,0 +401,0 @@", "@@ -401,0 +0,0 @@", "@@ -0,0 +401,0 @@", "@@ -400,0 +400,0 @@"} {
		if l, line, e := unified.Parse([]byte(lines(head))); e != api.ErrForm || line != 0 || len(l) != 0 {
			t.Errorf("%s: %v, %d, %d", head, l, line, e)
		}
	}
	for _, head := range []string{"@@ -401,400 +401,400 @@", "@@ -1,400 +1,400 @@", "@@ -401,1 +401,0 @@", "@@ -0,0 +401,400 @@"} {
		if l, line, e := unified.Parse([]byte(lines(head, "x"))); e != api.ErrForm || line != 2 || len(l) != 0 {
			t.Errorf("%s: %v, %d, %d", head, l, line, e)
		}
		if l, line, e := unified.Parse([]byte(lines(head))); e != api.ErrForm || line != 0 || len(l) != 0 {
			t.Errorf("%s, alone: %v, %d, %d", head, l, line, e)
		}
	}
}

// P10.2, P2: Parse's errors, each with its line.
func TestParseOfWrong(t *testing.T) {
	const head = "@@ -1,2 +1,2 @@"
	long := strings.Repeat("x", api.MaxText+1)
	var crowd []string
	for i := range 401 {
		crowd = append(crowd, "@@ -0,0 +"+strconv.Itoa(min(i, 400)+1)+",1 @@", "+x")
	}
	for _, c := range []struct {
		what string
		s    string
		line int
		want api.Errno
	}{
		{"all there", lines(head, " a", "-b", "+c"), 0, api.OK},
		{"a line without its end", lines(head, " a", "-b") + "+c", 4, api.ErrForm},
		{"a first line without its end", head, 1, api.ErrForm},
		{"a BARE's line without its end", lines(head, " a", "-b", "+c") + bare, 5, api.ErrForm},
		{"a wrong line, and then one without its end", lines(head, "x") + "+c", 2, api.ErrForm},
		{"a long line without its end", lines(head, " a", "-b") + "+" + long, 4, api.ErrForm},
		{"lines are missing", lines(head, " a", "-b"), 0, api.ErrForm},
		{"old ones are missing", lines(head, " a", "+b"), 0, api.ErrForm},
		{"all are missing", lines(head), 0, api.ErrForm},
		{"lines are missing behind a BARE's", lines(head, " a", bare), 0, api.ErrForm},
		{"a first line where others are missing", lines(head, " a", "-b", "@@ -4,1 +4,0 @@", "-x"), 4, api.ErrForm},
		{"none of the three", lines(head, " a", "b", "+c"), 3, api.ErrForm},
		{"an empty line", lines(head, " a", "", "+c"), 3, api.ErrForm},
		{"a tab", lines(head, "\ta", "-b", "+c"), 2, api.ErrForm},
		{"a byte above 127", lines(head, "\xff", "-b", "+c"), 2, api.ErrForm},
		{"an old one more", lines(head, " a", "-b", "-c", "+c"), 4, api.ErrForm},
		{"a new one more", lines(head, " a", "+b", "+c", "-c"), 4, api.ErrForm},
		{"one that stays where an old one is missing", lines(head, " a", "+b", " c"), 4, api.ErrForm},
		{"one that stays where a new one is missing", lines(head, " a", "-b", " c"), 4, api.ErrForm},
		{"one more behind all", lines(head, " a", "-b", "+c", "+d"), 5, api.ErrForm},
		{"one more that stays behind all", lines(head, " a", "-b", "+c", " d"), 5, api.ErrForm},
		{"an empty line behind all", lines(head, " a", "-b", "+c", ""), 5, api.ErrForm},
		{"a BARE's first", lines(bare, head), 1, api.ErrForm},
		{"a BARE's behind a first line", lines(head, bare, " a"), 2, api.ErrForm},
		{"a BARE's behind a second hunk's first line", lines("@@ -1,1 +0,0 @@", "-a", "@@ -1,0 +1,1 @@", bare, "+b"), 4, api.ErrForm},
		{"a BARE's behind the first line of a hunk without lines", lines("@@ -1,1 +0,0 @@", "-a", "@@ -1,0 +0,0 @@", bare), 4, api.ErrForm},
		{"a BARE's behind a BARE's", lines(head, " a", bare, bare, "-b", "+c"), 4, api.ErrForm},
		{"a BARE's behind a BARE's, behind all", lines(head, " a", "-b", "+c", bare, bare), 6, api.ErrForm},
		{"a BARE's behind an empty one", lines(head, " ", bare, "-b", "+c"), 3, api.ErrForm},
		{"a BARE's behind an empty one that is taken out", lines(head, " a", "-", bare, "+c"), 4, api.ErrForm},
		{"a BARE's behind an empty one, behind all", lines(head, " a", "-b", "+", bare), 5, api.ErrForm},
		{"a BARE's in another form", lines(head, " a", "-b", `\ no newline at end of file`, "+c"), 4, api.ErrForm},
		{"a BARE's with more behind it", lines(head, " a", "-b", bare+" ", "+c"), 4, api.ErrForm},
		{"a BARE's of its first bytes", lines(head, " a", "-b", `\`, "+c"), 4, api.ErrForm},
		{"a BARE's in another form, behind all", lines(head, " a", "-b", "+c", `\ No newline`), 5, api.ErrForm},
		{"a long one that stays", lines(head, " "+long, "-b", "+c"), 2, api.ErrLimit},
		{"a long one that is taken out", lines(head, " a", "-"+long, "+c"), 3, api.ErrLimit},
		{"a long one that is put in", lines(head, " a", "-b", "+"+long), 4, api.ErrLimit},
		{"a long one, then a wrong one", lines(head, " "+long, "x"), 2, api.ErrLimit},
		{"a wrong one, then a long one", lines(head, "x", " "+long), 2, api.ErrForm},
		{"a long one that is none of the three", lines(head, long), 2, api.ErrForm},
		{"a long one more", lines("@@ -1,1 +1,1 @@", "-a", "-"+long), 3, api.ErrForm},
		{"a long one behind all", lines("@@ -1,1 +0,0 @@", "-a", "+"+long), 3, api.ErrForm},
		{"a long one, and lines are missing", lines(head, " "+long), 2, api.ErrLimit},
		{"nothing changes", lines("@@ -1,1 +1,1 @@", " a"), 0, api.ErrForm},
		{"no lines", lines("@@ -1,0 +1,0 @@"), 0, api.ErrForm},
		{"no lines, behind a hunk", lines(head, " a", "-b", "+c", "@@ -2,0 +2,0 @@"), 0, api.ErrForm},
		{"in ahead of out", lines(head, " a", "+c", "-b"), 0, api.ErrForm},
		{"in ahead of out, the same line", lines("@@ -1,1 +1,1 @@", "+a", "-a"), 0, api.ErrForm},
		{"out of place", lines("@@ -1,1 +2,1 @@", "-a", "+b"), 0, api.ErrForm},
		{"the second one out of place", lines(head, " a", "-b", "+c", "@@ -4,1 +5,0 @@", "-x"), 0, api.ErrForm},
		{"the second one within the first", lines(head, " a", "-b", "+c", "@@ -2,1 +1,0 @@", "-x"), 0, api.ErrForm},
		{"a place above the limit", lines("@@ -401,0 +401,1 @@", "+x"), 0, api.ErrForm},
		{"out of place, then a wrong line", lines("@@ -1,1 +2,1 @@", "-a", "+b", "x"), 4, api.ErrForm},
		{"out of place, and lines are missing", lines("@@ -1,1 +2,1 @@", "-a"), 0, api.ErrForm},
		{"too many hunks", lines(crowd...), 0, api.ErrLimit},
		{"too many hunks, and lines are missing", lines(append(crowd, "@@ -1,1 +1,1 @@")...), 0, api.ErrForm},
		{"too many hunks, and a wrong line", lines(append(crowd, "x")...), 803, api.ErrForm},
		{"too many hunks without lines", lines(slices.Repeat([]string{"@@ -0,0 +0,0 @@"}, 2000)...), 0, api.ErrLimit},
	} {
		l, line, e := unified.Parse([]byte(c.s))
		if e != c.want || line != c.line || e != api.OK && len(l) != 0 {
			t.Errorf("%s: %v, %d, %d", c.what, l, line, e)
		}
	}
}

// P10.2: edits are of as many lines as do the same behind each other, each hunk's apart.
func TestParseOfEdits(t *testing.T) {
	s := lines("@@ -1,6 +1,5 @@", " a", " b", "-c", "-d", "+e", " f", "-g", "+h", "@@ -7,0 +6,1 @@", "+i")
	want := []api.Hunk{
		at(0, 0, edit(api.Keep, "a", "b"), edit(api.Out, "c", "d"), edit(api.In, "e"), edit(api.Keep, "f"), edit(api.Out, "g"), edit(api.In, "h")),
		at(7, 5, edit(api.In, "i")),
	}
	if l, line, e := unified.Parse([]byte(s)); e != api.ErrForm || line != 0 || len(l) != 0 {
		t.Errorf("a line less on the old side: %v, %d, %d", l, line, e)
	}
	s = strings.Replace(s, "@@ -7,0", "@@ -6,0", 1)
	want[1].OldAt = 6
	if l, line, e := unified.Parse([]byte(s)); e != api.OK || line != 0 || !sameHunks(l, want) {
		t.Errorf("%v, %d, %d", l, line, e)
	}
}

var headForm = regexp.MustCompile(`^@@ -(0|[1-9][0-9]{0,9}),(0|[1-9][0-9]{0,9}) \+(0|[1-9][0-9]{0,9}),(0|[1-9][0-9]{0,9}) @@$`)

// headOf is a hunk of which the first line alone is there.
func headOf(s string) (api.Hunk, bool) {
	m := headForm.FindStringSubmatch(s)
	if m == nil {
		return api.Hunk{}, false
	}
	var n [4]int
	for i := range n {
		n[i], _ = strconv.Atoi(m[i+1])
	}
	for i := 0; i < 4; i += 2 {
		if n[i+1] > 400 || n[i] > 401 || n[i] == 0 && n[i+1] > 0 {
			return api.Hunk{}, false
		}
		if n[i+1] > 0 {
			n[i]--
		}
	}
	return api.Hunk{OldAt: n[0], Old: n[1], NewAt: n[2], New: n[3]}, true
}

// parse is the document's words, one by one, in another way: a line's fault is asked of all lines ahead of it.
func parse(s string) ([]api.Hunk, int, api.Errno) {
	if len(s) > api.MaxPatch {
		return nil, 0, api.ErrLimit
	}
	all := strings.SplitAfter(s, "\n")
	all = all[: len(all)-1 : len(all)]
	if !strings.HasSuffix(s, "\n") && s != "" {
		all = strings.SplitAfter(s, "\n")
	}
	var l []api.Hunk
	before, after := 0, 0
	for i, one := range all {
		one, ended := strings.CutSuffix(one, "\n")
		switch {
		case !ended:
			return nil, i + 1, api.ErrForm
		case one == bare:
			ahead := ""
			if i > 0 {
				ahead = strings.TrimSuffix(all[i-1], "\n")
			}
			// A first line begins with no sign.
			if len(ahead) < 2 || strings.IndexByte(" -+", ahead[0]) < 0 {
				return nil, i + 1, api.ErrForm
			}
			edits := l[len(l)-1].Edits
			last := edits[len(edits)-1].Lines
			last[len(last)-1].Bare = true
		case before == 0 && after == 0:
			h, is := headOf(one)
			if !is {
				return nil, i + 1, api.ErrForm
			}
			l = append(l, h)
			before, after = h.Old, h.New
		default:
			do := api.Step(0)
			if one != "" {
				do = map[byte]api.Step{' ': api.Keep, '-': api.Out, '+': api.In}[one[0]]
			}
			if do == 0 || do != api.In && before == 0 || do != api.Out && after == 0 {
				return nil, i + 1, api.ErrForm
			}
			if len(one) > 201 {
				return nil, i + 1, api.ErrLimit
			}
			if do != api.In {
				before--
			}
			if do != api.Out {
				after--
			}
			h := &l[len(l)-1]
			if n := len(h.Edits); n == 0 || h.Edits[n-1].Do != do {
				h.Edits = append(h.Edits, api.Edit{Do: do})
			}
			e := &h.Edits[len(h.Edits)-1]
			e.Lines = append(e.Lines, api.Line{Text: one[1:]})
		}
	}
	if before > 0 || after > 0 {
		return nil, 0, api.ErrForm
	}
	if e := hunk.Check(l); e != api.OK {
		return nil, 0, e
	}
	return l, 0, api.OK
}

// checkParse is P10.2 and P10.3 of a text.
func checkParse(t *testing.T, s string) {
	t.Helper()
	want, wantLine, wantErrno := parse(s)
	l, line, e := unified.Parse([]byte(s))
	if e != wantErrno || line != wantLine || !sameHunks(l, want) {
		t.Fatalf("Parse(%q) = %v, %d, %d, not %v, %d, %d", s, l, line, e, want, wantLine, wantErrno)
	}
	if e != api.OK {
		return
	}
	if b, e := unified.Print(l); e != api.OK || string(b) != s {
		t.Fatalf("Print of Parse(%q) = %q, %d", s, b, e)
	}
}

// P10.2, P10.3: all texts of up to 5 of a few lines, with and without the last byte.
func TestAllShortTexts(t *testing.T) {
	for _, l := range every(5, "@@ -1,1 +1,1 @@", "@@ -0,0 +1,1 @@", "@@ -1,2 +2,1 @@", " a", "-b", "+c", "+", bare, "x") {
		s := lines(l...)
		if len(l) > 0 {
			checkParse(t, strings.TrimSuffix(s, "\n"))
		}
		if len(l) == 0 {
			s = ""
		}
		checkParse(t, s)
	}
}

// P10.1, P10.3: Parse of Print are the hunks, of all that is built of short scripts.
func TestAllShortScripts(t *testing.T) {
	some := []api.Edit{edit(api.Keep, "k"), edit(api.Keep, "", "m~", "-n"), edit(api.Out, "a"), edit(api.Out, " b~"), edit(api.In, "+x", ""), edit(api.In, "y~")}
	for _, s := range every(5, some...) {
		for context := range 3 {
			l, e := hunk.Build(s, context)
			if e != api.OK {
				t.Fatalf("Build(%v) tells %d", s, e)
			}
			b, e := unified.Print(l)
			if e != api.OK {
				t.Fatalf("Print(%v) tells %d", l, e)
			}
			again, line, e := unified.Parse(b)
			if e != api.OK || line != 0 || !sameHunks(again, l) {
				t.Fatalf("Parse(%q) = %v, %d, %d", b, again, line, e)
			}
			checkParse(t, string(b))
		}
	}
}

// P3: what is handed in stays as it is, spare room too.
func TestArgumentsStay(t *testing.T) {
	h := at(0, 0, edit(api.Keep, "a", "!"), edit(api.Out, "b~"), edit(api.In, "?"))
	h.Edits[0].Lines = h.Edits[0].Lines[:1]
	h.Edits = h.Edits[:2]
	h.Old, h.New = 2, 1
	l := []api.Hunk{h, at(9, 9, edit(api.Out, "spare"))}
	was := deep(l)
	if b, e := unified.Print(l[:1]); e != api.OK || string(b) != lines("@@ -1,2 +1,1 @@", " a", "-b", bare) {
		t.Errorf("Print: %q, %d", b, e)
	}
	if !sameHunks(l, was) || h.Edits[0].Lines[:2][1].Text != "!" || !same(h.Edits[2:3], []api.Edit{edit(api.In, "?")}) {
		t.Errorf("left: %v", l)
	}
	s := lines("@@ -1,1 +0,0 @@", "-a", bare)
	b := []byte(s + "spare")
	if l, line, e := unified.Parse(b[:len(s)]); e != api.OK || line != 0 || len(l) != 1 || string(b) != s+"spare" {
		t.Errorf("Parse: %v, %d, %d, left %q", l, line, e, b)
	}
}

func spoilLines(l []api.Line) {
	l = l[:cap(l)]
	for i := range l {
		l[i] = api.Line{Text: "spoilt", Bare: true}
	}
}

// P3, P6: what is answered is new memory, in which no list lies in another one, and nothing is kept.
func TestAnswersAreNew(t *testing.T) {
	s := lines("@@ -1,3 +1,4 @@", " a", "-b", "+c", "+d", " e", "@@ -5,1 +5,0 @@", "-f", bare)
	b := []byte(s)
	for range 2 {
		first, _, e := unified.Parse(b)
		second, _, _ := unified.Parse(b)
		want := deep(second)
		said, f := unified.Print(second)
		if e != api.OK || f != api.OK || !sameHunks(first, second) || string(said) != s {
			t.Fatalf("%v, %d, %v, %q, %d", first, e, second, said, f)
		}
		for i := range first {
			for k := range first[i].Edits {
				spoilLines(first[i].Edits[k].Lines)
				if !same(first[i].Edits[k+1:], want[i].Edits[k+1:]) || !sameHunks(first[i+1:], want[i+1:]) {
					t.Fatalf("behind edit %d of hunk %d: %v", k, i, first)
				}
			}
			for k := range first[i].Edits[:cap(first[i].Edits)] {
				first[i].Edits[:cap(first[i].Edits)][k] = api.Edit{Do: 9}
			}
			if !sameHunks(first[i+1:], want[i+1:]) {
				t.Fatalf("behind hunk %d: %v", i, first)
			}
		}
		for i := range said {
			said[i] = '!'
		}
		if !sameHunks(second, want) || string(b) != s {
			t.Fatalf("then %v, %q", second, b)
		}
	}
	l, _, _ := unified.Parse(b)
	for i := range b {
		b[i] = '?'
	}
	if said, e := unified.Print(l); e != api.OK || string(said) != s {
		t.Errorf("then %q, %d", said, e)
	}
}

// P1, P10.2, P10.3: whatever is handed in is answered.
func FuzzParse(f *testing.F) {
	for _, c := range pairs() {
		f.Add([]byte(c.text))
	}
	f.Add([]byte("@@ -1,1 +1,1 @@\n-a\n+b\n+c\n"))
	f.Add([]byte("@@ -402,1 +1,1 @@"))
	f.Fuzz(func(t *testing.T, b []byte) {
		checkParse(t, string(b))
	})
}

// P1, P10.1, P10.3: what is printed is parsed as it was.
func FuzzPrint(f *testing.F) {
	f.Add("\x01ab\n\x02c\n\x03de~\n\x01f", 1, 0, 0)
	f.Add("\x03~", 0, 0, 0)
	f.Add("\x02"+strings.Repeat("x", 201), 3, 1, -1)
	f.Fuzz(func(t *testing.T, s string, context, oldAt, newAt int) {
		var edits []api.Edit
		for _, one := range strings.Split(s, "\n") {
			if one != "" {
				edits = append(edits, edit(api.Step(one[0]), strings.Split(one[1:], "\x00")...))
			}
		}
		built, _ := hunk.Build(edits, context)
		for _, l := range [][]api.Hunk{built, {at(oldAt, newAt, edits...)}} {
			b, e := unified.Print(l)
			if wrong := hunk.Check(l); wrong != api.OK && e != wrong || e != api.OK && len(b) != 0 {
				t.Fatalf("Print(%v) = %q, %d", l, b, e)
			}
			if e != api.OK {
				continue
			}
			if again, line, e := unified.Parse(b); e != api.OK || line != 0 || !sameHunks(again, l) {
				t.Fatalf("Parse(%q) = %v, %d, %d", b, again, line, e)
			}
		}
	})
}
