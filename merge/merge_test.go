package merge_test

import (
	"math"
	"slices"
	"strings"
	"testing"

	"jalousie/api"
	"jalousie/chunk"
	"jalousie/merge"
	"jalousie/text"
)

// row is lines, a letter each; the last one is Bare behind a ~.
func row(letters string) []api.Line {
	letters, bare := strings.CutSuffix(letters, "~")
	var l []api.Line
	for i := range len(letters) {
		l = append(l, api.Line{Text: letters[i : i+1]})
	}
	if bare {
		l[len(l)-1].Bare = true
	}
	return l
}

// told is lines as a text of letters, as in row; one that is Bare, and not the last one, has its ~ there.
func told(l []api.Line) string {
	s := ""
	for _, one := range l {
		s += one.Text
		if one.Bare {
			s += "~"
		}
	}
	return s
}

// pairs is a row of pairs, two numbers each.
func pairs(numbers ...int) [][2]int {
	var p [][2]int
	for i := 0; i < len(numbers); i += 2 {
		p = append(p, [2]int{numbers[i], numbers[i+1]})
	}
	return p
}

// all is the match of n lines with as many, one by one.
func all(n int) [][2]int {
	var p [][2]int
	for i := range n {
		p = append(p, [2]int{i, i})
	}
	return p
}

// piece is a piece whose chunk is not stable.
func piece(side api.Side, o, on, a, an, b, bn int) api.Piece {
	return api.Piece{Side: side, Chunk: api.Chunk{O: o, ON: on, A: a, AN: an, B: b, BN: bn}}
}

// stable is a piece of n lines that are the same.
func stable(o, a, b, n int) api.Piece {
	return api.Piece{Side: api.Both, Chunk: api.Chunk{Stable: true, O: o, ON: n, A: a, AN: n, B: b, BN: n}}
}

// every is all rows of up to n of some elements.
func every[E any](n int, some ...E) [][]E {
	all := [][]E{nil}
	last := all
	for range n {
		var next [][]E
		for _, l := range last {
			for _, one := range some {
				next = append(next, append(slices.Clone(l), one))
			}
		}
		all = append(all, next...)
		last = next
	}
	return all
}

// texts is all right texts of up to n lines, of two letters.
func texts(n int) [][]api.Line {
	var l [][]api.Line
	for _, letters := range every(n, "x", "y") {
		s := strings.Join(letters, "")
		l = append(l, row(s))
		if s != "" {
			l = append(l, row(s+"~"))
		}
	}
	return l
}

// matches is all matches of lines with the same Text.
func matches(x, y []api.Line) [][][2]int {
	var from func(i, j int) [][][2]int
	from = func(i, j int) [][][2]int {
		found := [][][2]int{nil}
		for a := i; a < len(x); a++ {
			for b := j; b < len(y); b++ {
				if x[a].Text != y[b].Text {
					continue
				}
				for _, rest := range from(a+1, b+1) {
					found = append(found, append(pairs(a, b), rest...))
				}
			}
		}
		return found
	}
	return from(0, 0)
}

// P14.1: Of, and P14.2: what it makes, where it is told by hand.
func TestOf(t *testing.T) {
	for _, c := range []struct {
		what, o, a, b string
		oa, ob        [][2]int
		want          []api.Piece
		made          string // as told; a clash is told as !
	}{
		{"nothing", "", "", "", nil, nil, nil, ""},
		{"the document's clash", "x", "y", "z", nil, nil, []api.Piece{piece(api.Clash, 0, 1, 0, 1, 0, 1)}, "!"},
		{"the document's other one", "x", "y", "x", nil, all(1), []api.Piece{piece(api.Mine, 0, 1, 0, 1, 0, 1)}, "y"},
		{"the other way round", "x", "x", "y", all(1), nil, []api.Piece{piece(api.Theirs, 0, 1, 0, 1, 0, 1)}, "y"},
		{"all the same", "xyz", "xyz", "xyz", all(3), all(3), []api.Piece{stable(0, 0, 0, 3)}, "xyz"},
		{"all the same, not matched", "xyz", "xyz", "xyz", nil, nil, []api.Piece{piece(api.Both, 0, 3, 0, 3, 0, 3)}, "xyz"},
		{"both the same", "x", "yz", "yz", nil, nil, []api.Piece{piece(api.Both, 0, 1, 0, 2, 0, 2)}, "yz"},
		{"both took it out", "xyz", "xz", "xz", pairs(0, 0, 2, 1), pairs(0, 0, 2, 1), []api.Piece{stable(0, 0, 0, 1), piece(api.Both, 1, 1, 1, 0, 1, 0), stable(2, 1, 1, 1)}, "xz"},
		{"one took it out", "xyz", "xz", "xyz", pairs(0, 0, 2, 1), all(3), []api.Piece{stable(0, 0, 0, 1), piece(api.Mine, 1, 1, 1, 0, 1, 1), stable(2, 1, 2, 1)}, "xz"},
		{"the other one took it out", "xyz", "xyz", "xz", all(3), pairs(0, 0, 2, 1), []api.Piece{stable(0, 0, 0, 1), piece(api.Theirs, 1, 1, 1, 1, 1, 0), stable(2, 2, 1, 1)}, "xz"},
		{"one changed what the other one took out", "xyz", "xwz", "xz", pairs(0, 0, 2, 2), pairs(0, 0, 2, 1), []api.Piece{stable(0, 0, 0, 1), piece(api.Clash, 1, 1, 1, 1, 1, 0), stable(2, 2, 1, 1)}, "x!z"},
		{"one put in", "xy", "xwy", "xy", pairs(0, 0, 1, 2), all(2), []api.Piece{stable(0, 0, 0, 1), piece(api.Mine, 1, 0, 1, 1, 1, 0), stable(1, 2, 1, 1)}, "xwy"},
		{"both put in, unlike", "xy", "xwy", "xvy", pairs(0, 0, 1, 2), pairs(0, 0, 1, 2), []api.Piece{stable(0, 0, 0, 1), piece(api.Clash, 1, 0, 1, 1, 1, 1), stable(1, 2, 2, 1)}, "x!y"},
		{"each at another place", "xyz", "wxyz", "xyzv", pairs(0, 1, 1, 2, 2, 3), all(3), []api.Piece{piece(api.Mine, 0, 0, 0, 1, 0, 0), stable(0, 1, 0, 3), piece(api.Theirs, 3, 0, 4, 0, 3, 1)}, "wxyzv"},
		{"all is new", "", "x", "", nil, nil, []api.Piece{piece(api.Mine, 0, 0, 0, 1, 0, 0)}, "x"},
		{"all is new on the other side", "", "", "x", nil, nil, []api.Piece{piece(api.Theirs, 0, 0, 0, 0, 0, 1)}, "x"},
		{"all is new on both sides", "", "x", "x", nil, nil, []api.Piece{piece(api.Both, 0, 0, 0, 1, 0, 1)}, "x"},
		{"all is gone", "x", "", "x", nil, nil, []api.Piece{piece(api.Mine, 0, 1, 0, 0, 0, 1)}, ""},
		{"all is gone on both sides", "x", "", "", nil, nil, []api.Piece{piece(api.Both, 0, 1, 0, 0, 0, 0)}, ""},
		{"gone, and another one", "x", "", "y", nil, nil, []api.Piece{piece(api.Clash, 0, 1, 0, 0, 0, 1)}, "!"},
		{"the same all along, matched nowhere in a", "xy", "xy", "xz", nil, pairs(0, 0), []api.Piece{piece(api.Theirs, 0, 2, 0, 2, 0, 2)}, "xz"},
		// A newline at the end is a change, too.
		{"one ends without a newline", "x", "x~", "x", nil, all(1), []api.Piece{piece(api.Mine, 0, 1, 0, 1, 0, 1)}, "x~"},
		{"the other one ends without a newline", "x", "x", "x~", all(1), nil, []api.Piece{piece(api.Theirs, 0, 1, 0, 1, 0, 1)}, "x~"},
		{"both end without a newline", "x", "x~", "x~", nil, nil, []api.Piece{piece(api.Both, 0, 1, 0, 1, 0, 1)}, "x~"},
		{"unlike ends", "x", "x~", "y", nil, nil, []api.Piece{piece(api.Clash, 0, 1, 0, 1, 0, 1)}, "!"},
		{"matched, unlike in Bare", "x~", "x", "x~", all(1), all(1), []api.Piece{stable(0, 0, 0, 1)}, "x~"},
		{"matched, unlike in Bare, the other way round", "x~", "x~", "x", all(1), all(1), []api.Piece{stable(0, 0, 0, 1)}, "x"},
		// What was a last line is one among others.
		{"one puts in behind what is Bare", "x~", "wx~", "xy", pairs(0, 1), all(1), []api.Piece{piece(api.Mine, 0, 0, 0, 1, 0, 0), stable(0, 1, 0, 1), piece(api.Theirs, 1, 0, 2, 0, 1, 1)}, "wxy"},
		{"a Bare line stands ahead of others", "x~", "xw", "x~", all(1), all(1), []api.Piece{stable(0, 0, 0, 1), piece(api.Mine, 1, 0, 1, 1, 1, 0)}, "xw"},
	} {
		o, a, b := row(c.o), row(c.a), row(c.b)
		l, e := merge.Of(o, a, b, c.oa, c.ob)
		if e != api.OK || !slices.Equal(l, c.want) {
			t.Errorf("%s: %v, %d", c.what, l, e)
			continue
		}
		m, e := merge.Marked(l, o, a, b)
		if made := unmarked(m); e != api.OK || made != c.made {
			t.Errorf("%s: %s, %d", c.what, made, e)
		}
	}
}

// unmarked is lines as told, with a ! for each clash.
func unmarked(l []api.Line) string {
	s := ""
	for len(l) > 0 {
		if l[0].Text == "<<<<<<< mine" {
			s += "!"
			l = l[slices.Index(l, api.Line{Text: ">>>>>>> theirs"})+1:]
			continue
		}
		s, l = s+told(l[:1]), l[1:]
	}
	return s
}

// P14.1, P2: what Of refuses, and what it names first.
func TestOfErrors(t *testing.T) {
	most, more := make([]api.Line, api.MaxLines), make([]api.Line, api.MaxLines+1)
	for _, c := range []struct {
		what    string
		o, a, b []api.Line
		oa, ob  [][2]int
		want    api.Errno
	}{
		{"as many lines as may be", most, most, most, all(400), all(400), api.OK},
		{"one more", more, most, most, nil, nil, api.ErrArg},
		{"one more in the second one", most, more, most, nil, nil, api.ErrArg},
		{"one more in the third one", most, most, more, nil, nil, api.ErrArg},
		{"no match", row("xx"), row("xx"), row("xx"), pairs(0, 0, 0, 1), nil, api.ErrArg},
		{"no match on the other side", row("xx"), row("xx"), row("xx"), nil, pairs(0, 0, 1, 0), api.ErrArg},
		{"a match of more", row("xx"), row("x"), row("xx"), all(2), nil, api.ErrArg},
		{"a match of more on the other side", row("xx"), row("xx"), row("x"), nil, all(2), api.ErrArg},
		{"ahead of the beginning", row("xx"), row("xx"), row("xx"), pairs(-1, 0), nil, api.ErrArg},
		{"unlike lines", row("xy"), row("xz"), row("xy"), all(2), all(2), api.ErrForm},
		{"unlike lines on the other side", row("xy"), row("xy"), row("xz"), all(2), all(2), api.ErrForm},
		{"unlike lines ahead", row("xy"), row("zy"), row("xy"), all(2), nil, api.ErrForm},
		{"unlike lines ahead on the other side", row("xy"), row("xy"), row("zy"), nil, all(2), api.ErrForm},
		{"unlike by a byte", row("x"), []api.Line{{Text: "x "}}, row("x"), all(1), all(1), api.ErrForm},
		{"unlike and like in Bare", row("x~"), row("y~"), row("x"), all(1), nil, api.ErrForm},
		{"like, but for Bare", row("x~"), row("x"), row("x"), all(1), all(1), api.OK},
		{"like, but for Bare on the other side", row("x"), row("x"), row("x~"), all(1), all(1), api.OK},
		{"no match, and unlike lines", row("xy"), row("zz"), row("zz"), pairs(1, 1, 0, 0), all(2), api.ErrArg},
		{"unlike lines, and no match on the other side", row("xy"), row("zz"), row("zz"), all(2), pairs(1, 1, 0, 0), api.ErrArg},
	} {
		l, e := merge.Of(c.o, c.a, c.b, c.oa, c.ob)
		if e != c.want || e != api.OK && len(l) != 0 {
			t.Errorf("%s: %v, %d", c.what, l, e)
		}
	}
}

// P14.1: Clean, of any pieces.
func TestClean(t *testing.T) {
	for _, c := range []struct {
		sides []api.Side
		want  bool
	}{
		{nil, true},
		{[]api.Side{api.Both}, true},
		{[]api.Side{api.Both, api.Mine, api.Both, api.Theirs}, true},
		{[]api.Side{api.Clash}, false},
		{[]api.Side{api.Both, api.Clash}, false},
		{[]api.Side{api.Clash, api.Both}, false},
		{[]api.Side{api.Mine, api.Clash, api.Theirs}, false},
		{[]api.Side{api.NoSide, -1, 5, math.MaxInt, math.MinInt}, true},
		{[]api.Side{api.NoSide, -1, 5, api.Clash}, false},
	} {
		var l []api.Piece
		for _, one := range c.sides {
			l = append(l, api.Piece{Side: one})
		}
		if is := merge.Clean(l); is != c.want {
			t.Errorf("Clean of %v: %v", c.sides, is)
		}
	}
}

// P14.2: Lines and Marked, where they are told by hand.
func TestLines(t *testing.T) {
	for _, c := range []struct {
		what, o, a, b string
		l             []api.Piece
		lines, marked string
	}{
		{"nothing", "", "", "", nil, "", ""},
		{"the third one's, if it is both's", "x", "y", "z", []api.Piece{piece(api.Both, 0, 1, 0, 1, 0, 1)}, "z\n", "z\n"},
		{"the third one's, if it is stable", "x", "y", "z", []api.Piece{stable(0, 0, 0, 1)}, "z\n", "z\n"},
		{"the third one's", "x", "y", "z", []api.Piece{piece(api.Theirs, 0, 1, 0, 1, 0, 1)}, "z\n", "z\n"},
		{"the second one's", "x", "y", "z", []api.Piece{piece(api.Mine, 0, 1, 0, 1, 0, 1)}, "y\n", "y\n"},
		{"the second one's of what is stable", "x", "y", "z", []api.Piece{{Side: api.Mine, Chunk: stable(0, 0, 0, 1).Chunk}}, "y\n", "y\n"},
		{"no lines of the second one", "x", "", "z", []api.Piece{piece(api.Mine, 0, 1, 0, 0, 0, 1)}, "", ""},
		{"no lines of the third one", "x", "y", "", []api.Piece{piece(api.Theirs, 0, 1, 0, 1, 0, 0)}, "", ""},
		{"in order", "pq", "rst", "uvw", []api.Piece{piece(api.Mine, 0, 1, 0, 1, 0, 2), piece(api.Theirs, 1, 1, 1, 2, 2, 1)}, "r\nw\n", "r\nw\n"},
		{"in another order", "pq", "rst", "uvw", []api.Piece{piece(api.Both, 0, 1, 0, 1, 0, 2), piece(api.Mine, 1, 1, 1, 2, 2, 1)}, "u\nv\ns\nt\n", "u\nv\ns\nt\n"},
		{"Bare at the end", "x", "y~", "z", []api.Piece{piece(api.Mine, 0, 1, 0, 1, 0, 1)}, "y", "y"},
		{"Bare ahead of the end", "x", "y~", "zw", []api.Piece{piece(api.Mine, 0, 1, 0, 1, 0, 1), piece(api.Both, 1, 0, 1, 0, 1, 1)}, "y\nw\n", "y\nw\n"},
		{"Bare ahead of no more lines", "xx", "y~", "zw", []api.Piece{piece(api.Mine, 0, 1, 0, 1, 0, 1), piece(api.Mine, 1, 1, 1, 0, 1, 1)}, "y", "y"},
		{"Bare twice", "x", "y~", "zw~", []api.Piece{piece(api.Mine, 0, 1, 0, 1, 0, 1), piece(api.Both, 1, 0, 1, 0, 1, 1)}, "y\nw", "y\nw"},
		{"a clash", "x", "y", "z", []api.Piece{piece(api.Clash, 0, 1, 0, 1, 0, 1)}, "", "<<<<<<< mine\ny\n||||||| base\nx\n=======\nz\n>>>>>>> theirs\n"},
		{"a clash of no lines on one side", "x", "", "z", []api.Piece{piece(api.Clash, 0, 1, 0, 0, 0, 1)}, "", "<<<<<<< mine\n||||||| base\nx\n=======\nz\n>>>>>>> theirs\n"},
		{"a clash of no lines on the other side", "x", "y", "", []api.Piece{piece(api.Clash, 0, 1, 0, 1, 0, 0)}, "", "<<<<<<< mine\ny\n||||||| base\nx\n=======\n>>>>>>> theirs\n"},
		{"a clash of no lines ahead of both", "", "y", "z", []api.Piece{piece(api.Clash, 0, 0, 0, 1, 0, 1)}, "", "<<<<<<< mine\ny\n||||||| base\n=======\nz\n>>>>>>> theirs\n"},
		{"a clash of Bare lines", "x~", "y~", "z~", []api.Piece{piece(api.Clash, 0, 1, 0, 1, 0, 1)}, "", "<<<<<<< mine\ny\n||||||| base\nx\n=======\nz\n>>>>>>> theirs\n"},
		{"a clash between", "pxq", "pyyq", "pq~", []api.Piece{stable(0, 0, 0, 1), piece(api.Clash, 1, 1, 1, 2, 1, 0), stable(2, 3, 1, 1)}, "", "p\n<<<<<<< mine\ny\ny\n||||||| base\nx\n=======\n>>>>>>> theirs\nq"},
		{"two clashes", "pxq", "rxs", "txu", []api.Piece{piece(api.Clash, 0, 1, 0, 1, 0, 1), stable(1, 1, 1, 1), piece(api.Clash, 2, 1, 2, 1, 2, 1)}, "", "<<<<<<< mine\nr\n||||||| base\np\n=======\nt\n>>>>>>> theirs\nx\n<<<<<<< mine\ns\n||||||| base\nq\n=======\nu\n>>>>>>> theirs\n"},
	} {
		o, a, b := row(c.o), row(c.a), row(c.b)
		want := api.OK
		if !merge.Clean(c.l) {
			want = api.ErrClash
		}
		l, e := merge.Lines(c.l, o, a, b)
		if e != want || string(text.Join(l)) != c.lines || !text.Right(l) {
			t.Errorf("%s: %q, %d", c.what, told(l), e)
		}
		m, e := merge.Marked(c.l, o, a, b)
		if e != api.OK || string(text.Join(m)) != c.marked || !text.Right(m) {
			t.Errorf("%s: %q, %d, marked", c.what, told(m), e)
		}
	}
}

// P14.2: of what is Bare within a text, too, the last line alone stays so.
func TestBareWithin(t *testing.T) {
	o := row("xxx")
	a := []api.Line{{Text: "p", Bare: true}, {Text: "q", Bare: true}}
	b := []api.Line{{Text: "r", Bare: true}, {Text: "", Bare: true}}
	for _, c := range []struct {
		l             []api.Piece
		lines, marked string
	}{
		{[]api.Piece{piece(api.Mine, 0, 3, 0, 2, 0, 2)}, "pq~", "pq~"},
		{[]api.Piece{piece(api.Theirs, 0, 3, 0, 2, 0, 2)}, "r~", "r~"},
		{[]api.Piece{piece(api.Mine, 0, 1, 0, 1, 0, 1), piece(api.Theirs, 1, 2, 1, 1, 1, 1)}, "p~", "p~"},
		{[]api.Piece{piece(api.Mine, 0, 1, 0, 1, 0, 1), piece(api.Clash, 1, 2, 1, 1, 1, 1)}, "", "p<<<<<<< mineq||||||| basexx=======>>>>>>> theirs"},
	} {
		l, _ := merge.Lines(c.l, o, a, b)
		m, e := merge.Marked(c.l, o, a, b)
		if told(l) != c.lines || told(m) != c.marked || e != api.OK {
			t.Errorf("%q, and %q, %d", told(l), told(m), e)
		}
	}
}

// P14.2, P2: what Lines and Marked refuse, and what they name first.
func TestLinesErrors(t *testing.T) {
	o, a, b := row("pxq"), row("pyyq"), row("pq")
	ok := []api.Piece{stable(0, 0, 0, 1), piece(api.Clash, 1, 1, 1, 2, 1, 0), stable(2, 3, 1, 1)}
	with := func(k int, p api.Piece) []api.Piece {
		l := slices.Clone(ok)
		l[k] = p
		return l
	}
	sided := func(k int, side api.Side) []api.Piece {
		return with(k, api.Piece{Side: side, Chunk: ok[k].Chunk})
	}
	for _, c := range []struct {
		what          string
		l             []api.Piece
		lines, marked api.Errno
	}{
		{"a clash", ok, api.ErrClash, api.OK},
		{"clean", sided(1, api.Mine), api.OK, api.OK},
		{"the other side", sided(1, api.Theirs), api.OK, api.OK},
		{"both sides", sided(1, api.Both), api.OK, api.OK},
		{"a clash of what is stable", sided(0, api.Clash), api.ErrClash, api.OK},
		{"no side", sided(1, api.NoSide), api.ErrForm, api.ErrForm},
		{"no side, at the end", sided(2, api.NoSide), api.ErrForm, api.ErrForm},
		{"no side, ahead", sided(0, api.NoSide), api.ErrForm, api.ErrForm},
		{"a side above all", sided(1, api.Clash+1), api.ErrForm, api.ErrForm},
		{"a side below all", sided(1, -1), api.ErrForm, api.ErrForm},
		{"the greatest side", sided(1, math.MaxInt), api.ErrForm, api.ErrForm},
		{"the least side", sided(1, math.MinInt), api.ErrForm, api.ErrForm},
		{"none", nil, api.ErrForm, api.ErrForm},
		{"one too few", ok[:2], api.ErrForm, api.ErrForm},
		{"not from the beginning", ok[1:], api.ErrForm, api.ErrForm},
		{"one too many", append(slices.Clone(ok), piece(api.Both, 3, 0, 4, 0, 2, 0)), api.ErrForm, api.ErrForm},
		{"a line too many", with(2, piece(api.Mine, 2, 1, 3, 1, 1, 2)), api.ErrForm, api.ErrForm},
		{"a line too many of the second one", with(2, piece(api.Mine, 2, 1, 3, 2, 1, 1)), api.ErrForm, api.ErrForm},
		{"a line too many of the first one", with(2, piece(api.Mine, 2, 2, 3, 1, 1, 1)), api.ErrForm, api.ErrForm},
		{"stable, and not as many of each", with(1, api.Piece{Side: api.Both, Chunk: api.Chunk{Stable: true, O: 1, ON: 1, A: 1, AN: 2, B: 1}}), api.ErrForm, api.ErrForm},
		{"less than nothing", with(1, piece(api.Mine, 1, 1, 1, 2, 1, -1)), api.ErrForm, api.ErrForm},
		{"the greatest numbers", with(1, piece(api.Mine, 1, math.MaxInt, 1, math.MaxInt, 1, math.MaxInt)), api.ErrForm, api.ErrForm},
		{"the least numbers", with(1, piece(api.Mine, math.MinInt, math.MinInt, math.MinInt, math.MinInt, math.MinInt, math.MinInt)), api.ErrForm, api.ErrForm},
	} {
		if l, e := merge.Lines(c.l, o, a, b); e != c.lines || e != api.OK && len(l) != 0 {
			t.Errorf("%s: %q, %d", c.what, told(l), e)
		}
		if l, e := merge.Marked(c.l, o, a, b); e != c.marked || e != api.OK && len(l) != 0 {
			t.Errorf("%s: %q, %d, marked", c.what, told(l), e)
		}
	}
	for _, call := range []func(l []api.Piece, o, a, b []api.Line) ([]api.Line, api.Errno){merge.Lines, merge.Marked} {
		if _, e := call(sided(1, api.Mine), o[:2], a, b); e != api.ErrForm {
			t.Errorf("a line less of the first one: %d", e)
		}
		if _, e := call(sided(1, api.Mine), o, a[:3], b); e != api.ErrForm {
			t.Errorf("a line less of the second one: %d", e)
		}
		if _, e := call(sided(1, api.Mine), o, a, b[:1]); e != api.ErrForm {
			t.Errorf("a line less of the third one: %d", e)
		}
	}
}

// mine and theirs are n places of a side from a place on.
func mine(at, n int) []api.Place {
	var l []api.Place
	for i := range n {
		l = append(l, api.Place{At: at + i})
	}
	return l
}

func theirs(at, n int) []api.Place {
	l := mine(at, n)
	for i := range l {
		l[i].Theirs = true
	}
	return l
}

// P14.3, P2: From, where it is told by hand.
func TestFrom(t *testing.T) {
	const most, least = math.MaxInt, math.MinInt
	for _, c := range []struct {
		what string
		l    []api.Piece
		b    int
		want []api.Place
		e    api.Errno
	}{
		{"nothing", nil, 0, nil, api.OK},
		{"nothing of a line", nil, 1, nil, api.ErrForm},
		{"nothing of less than nothing", nil, -1, nil, api.ErrForm},
		{"nothing of the least number", nil, least, nil, api.ErrForm},
		{"nothing of the greatest number", nil, most, nil, api.ErrForm},
		{"both's", []api.Piece{piece(api.Both, 0, 1, 0, 3, 0, 2)}, 2, theirs(0, 2), api.OK},
		{"stable", []api.Piece{stable(0, 0, 0, 2)}, 2, theirs(0, 2), api.OK},
		{"the third one's", []api.Piece{piece(api.Theirs, 0, 1, 0, 3, 0, 2)}, 2, theirs(0, 2), api.OK},
		{"the second one's", []api.Piece{piece(api.Mine, 0, 1, 5, 3, 0, 2)}, 2, mine(5, 3), api.OK},
		{"none of the second one", []api.Piece{piece(api.Mine, 0, 1, 5, 0, 0, 2)}, 2, nil, api.OK},
		{"none of the third one", []api.Piece{piece(api.Theirs, 0, 1, 5, 1, 0, 0)}, 0, nil, api.OK},
		{"some", []api.Piece{piece(api.Mine, 0, 0, 0, 1, 0, 0), stable(0, 1, 0, 2), piece(api.Theirs, 2, 1, 3, 1, 2, 2), piece(api.Mine, 3, 1, 4, 2, 4, 1)}, 5, slices.Concat(mine(0, 1), theirs(0, 4), mine(4, 2)), api.OK},
		{"no side is as theirs", []api.Piece{piece(api.NoSide, 0, 1, 0, 3, 0, 2)}, 2, theirs(0, 2), api.OK},
		{"a side above all is as theirs", []api.Piece{piece(api.Clash+1, 0, 1, 0, 3, 0, 2)}, 2, theirs(0, 2), api.OK},
		{"a side below all is as theirs", []api.Piece{piece(-1, 0, 1, 0, 3, 0, 2)}, 2, theirs(0, 2), api.OK},
		{"the first text plays no part", []api.Piece{piece(api.Both, most, least, 0, 3, 0, 2)}, 2, theirs(0, 2), api.OK},
		{"nor how the second one's stretches lie", []api.Piece{piece(api.Mine, 0, 0, 7, 2, 0, 1), piece(api.Mine, 0, 0, 6, 2, 1, 1)}, 2, append(mine(7, 2), mine(6, 2)...), api.OK},
		{"nor whether as many are stable", []api.Piece{{Side: api.Both, Chunk: api.Chunk{Stable: true, BN: 2}}}, 2, theirs(0, 2), api.OK},
		{"pieces without lines", []api.Piece{piece(api.Both, 0, 0, 0, 0, 0, 0), piece(api.Mine, 0, 0, 0, 0, 0, 0)}, 0, nil, api.OK},
		{"a clash", []api.Piece{piece(api.Clash, 0, 1, 0, 1, 0, 1)}, 1, nil, api.ErrClash},
		{"a clash behind others", []api.Piece{stable(0, 0, 0, 1), piece(api.Clash, 1, 1, 1, 1, 1, 1)}, 2, nil, api.ErrClash},
		{"a clash, and a line too few", []api.Piece{piece(api.Clash, 0, 1, 0, 1, 0, 1)}, 2, nil, api.ErrForm},
		{"a clash, and too great a number behind it", []api.Piece{piece(api.Clash, 0, 1, 0, 1, 0, 1), piece(api.Both, 1, 0, 401, 0, 1, 0)}, 1, nil, api.ErrForm},
		{"a line too few", []api.Piece{stable(0, 0, 0, 1)}, 2, nil, api.ErrForm},
		{"a line too many", []api.Piece{stable(0, 0, 0, 2)}, 1, nil, api.ErrForm},
		{"not from the beginning", []api.Piece{piece(api.Both, 0, 1, 0, 1, 1, 1)}, 2, nil, api.ErrForm},
		{"from ahead of it", []api.Piece{piece(api.Both, 0, 1, 0, 1, -1, 3)}, 2, nil, api.ErrForm},
		{"a step between", []api.Piece{stable(0, 0, 0, 1), piece(api.Both, 1, 1, 1, 1, 2, 1)}, 3, nil, api.ErrForm},
		{"one over another one", []api.Piece{stable(0, 0, 0, 2), piece(api.Both, 1, 1, 1, 1, 1, 1)}, 2, nil, api.ErrForm},
		{"as many, and not from the beginning", []api.Piece{piece(api.Both, 0, 1, 0, 1, 1, 2)}, 2, nil, api.ErrForm},
		{"as many, and from ahead of it", []api.Piece{piece(api.Both, 0, 1, 0, 1, -1, 2)}, 2, nil, api.ErrForm},
		{"as many, and a step between", []api.Piece{stable(0, 0, 0, 1), piece(api.Mine, 1, 1, 1, 1, 2, 1)}, 2, nil, api.ErrForm},
		{"as many, and one over another one", []api.Piece{stable(0, 0, 0, 2), piece(api.Mine, 1, 1, 1, 1, 1, 1)}, 3, nil, api.ErrForm},
		{"as many, in another order", []api.Piece{piece(api.Mine, 0, 0, 0, 1, 1, 1), piece(api.Mine, 0, 0, 0, 1, 0, 1)}, 2, nil, api.ErrForm},
		{"less than nothing", []api.Piece{piece(api.Both, 0, 0, 0, 0, 0, -1)}, -1, nil, api.ErrForm},
		{"less than nothing, and back", []api.Piece{stable(0, 0, 0, 2), piece(api.Both, 0, 0, 0, 0, 2, -1), piece(api.Both, 0, 0, 0, 0, 1, 1)}, 2, nil, api.ErrForm},
		{"too far, and back", []api.Piece{stable(0, 0, 0, 2), piece(api.Both, 0, 0, 0, 0, 2, -1)}, 1, nil, api.ErrForm},
		{"the greatest A", []api.Piece{piece(api.Mine, 0, 0, 400, 1, 0, 0)}, 0, mine(400, 1), api.OK},
		{"the greatest AN", []api.Piece{piece(api.Mine, 0, 0, 0, 400, 0, 0)}, 0, mine(0, 400), api.OK},
		{"the greatest A and AN", []api.Piece{piece(api.Mine, 0, 0, 400, 400, 0, 0)}, 0, mine(400, 400), api.OK},
		{"too great an A", []api.Piece{piece(api.Mine, 0, 0, 401, 0, 0, 0)}, 0, nil, api.ErrForm},
		{"too great an AN", []api.Piece{piece(api.Mine, 0, 0, 0, 401, 0, 0)}, 0, nil, api.ErrForm},
		{"an A below 0", []api.Piece{piece(api.Mine, 0, 0, -1, 1, 0, 0)}, 0, nil, api.ErrForm},
		{"an AN below 0", []api.Piece{piece(api.Mine, 0, 0, 1, -1, 0, 0)}, 0, nil, api.ErrForm},
		{"too great an A of what is not mine", []api.Piece{piece(api.Theirs, 0, 0, 401, 0, 0, 1)}, 1, nil, api.ErrForm},
		{"too great an AN of what is not mine", []api.Piece{piece(api.Both, 0, 0, 0, 401, 0, 1)}, 1, nil, api.ErrForm},
		{"an A below 0 of what is not mine", []api.Piece{piece(api.Theirs, 0, 0, -1, 0, 0, 1)}, 1, nil, api.ErrForm},
		{"an AN below 0 of what is not mine", []api.Piece{piece(api.Both, 0, 0, 0, -1, 0, 1)}, 1, nil, api.ErrForm},
		{"the greatest numbers of all", []api.Piece{piece(api.Mine, 0, 0, most, most, 0, 0)}, 0, nil, api.ErrForm},
		{"the least numbers of all", []api.Piece{piece(api.Mine, 0, 0, least, least, least, least)}, least, nil, api.ErrForm},
		{"of as many as there are numbers, none is theirs", []api.Piece{piece(api.Mine, 0, 0, 3, 1, 0, most)}, most, mine(3, 1), api.OK},
		{"above all numbers", []api.Piece{piece(api.Mine, 0, 0, 0, 1, 0, 1), piece(api.Mine, 0, 0, 0, 1, 1, most)}, most, nil, api.ErrForm},
		{"above all numbers, and back", []api.Piece{piece(api.Mine, 0, 0, 0, 1, 0, 1), piece(api.Mine, 0, 0, 0, 1, 1, most), piece(api.Mine, 0, 0, 0, 1, least, most), piece(api.Mine, 0, 0, 0, 1, -1, 6)}, 5, nil, api.ErrForm},
		{"above all numbers, going round", []api.Piece{piece(api.Mine, 0, 0, 0, 1, 0, 1), piece(api.Mine, 0, 0, 0, 1, 1, most)}, least, nil, api.ErrForm},
	} {
		l, e := merge.From(c.l, c.b)
		if e != c.e || !slices.Equal(l, c.want) {
			t.Errorf("%s: %v, %d", c.what, l, e)
		}
	}
}

// P1: more lines than a list may have are not told: the call ends without.
func TestFromTooMany(t *testing.T) {
	const most = api.MaxNum
	for _, l := range [][]api.Piece{
		{piece(api.Theirs, 0, 0, 0, 0, 0, most+1)},
		{piece(api.Both, 0, 0, 0, 0, 0, 1), piece(api.Theirs, 0, 0, 0, 0, 1, most)},
		{piece(api.Theirs, 0, 0, 0, 0, 0, most), piece(api.Mine, 0, 0, 0, 1, most, 1)},
		{piece(api.NoSide, 0, 0, 0, 0, 0, math.MaxInt)},
	} {
		b := 0
		for _, p := range l {
			b += p.Chunk.BN
		}
		if from, e := merge.From(l, b); e == api.OK || len(from) != 0 {
			t.Errorf("%v: %d", l, e)
		}
	}
}

// keyed is lines as bytes, of which no others have the same; plain: but for what is Bare.
func keyed(l []api.Line) string {
	s := ""
	for _, one := range l {
		bare := "-"
		if one.Bare {
			bare = "~"
		}
		s += bare + one.Text + "\n"
	}
	return s
}

func plain(l []api.Line) string {
	s := ""
	for _, one := range l {
		s += one.Text + "\n"
	}
	return s
}

// of is the document's words: of each chunk which text counts.
func of(chunks []api.Chunk, o, a, b []api.Line) []api.Piece {
	var l []api.Piece
	for _, c := range chunks {
		base, mine, theirs := keyed(o[c.O:c.O+c.ON]), keyed(a[c.A:c.A+c.AN]), keyed(b[c.B:c.B+c.BN])
		p := api.Piece{Side: api.Clash, Chunk: c}
		if theirs == base {
			p.Side = api.Mine
		}
		if mine == base {
			p.Side = api.Theirs
		}
		if mine == theirs || c.Stable {
			p.Side = api.Both
		}
		l = append(l, p)
	}
	return l
}

// changed is pieces with Mine and Theirs changed for one another.
func changed(l []api.Piece) []api.Piece {
	var other []api.Piece
	for _, p := range l {
		switch p.Side {
		case api.Mine:
			p.Side = api.Theirs
		case api.Theirs:
			p.Side = api.Mine
		}
		c := p.Chunk
		p.Chunk.A, p.Chunk.AN, p.Chunk.B, p.Chunk.BN = c.B, c.BN, c.A, c.AN
		other = append(other, p)
	}
	return other
}

// ending: are the lines that are matched also alike in Bare?
func ending(x, y []api.Line, p [][2]int) bool {
	return !slices.ContainsFunc(p, func(one [2]int) bool { return x[one[0]].Bare != y[one[1]].Bare })
}

// checkOf is P14.1 to P14.3, P14.5 and P14.6 of right texts; it answers what was merged.
func checkOf(t *testing.T, o, a, b []api.Line, oa, ob [][2]int) ([]api.Line, api.Errno) {
	t.Helper()
	what := func() string { return told(o) + ", " + told(a) + ", " + told(b) }
	chunks, _ := chunk.Of(oa, ob, len(o), len(a), len(b))
	l, e := merge.Of(o, a, b, oa, ob)
	if e != api.OK || !slices.Equal(l, of(chunks, o, a, b)) {
		t.Fatalf("Of(%s, %v, %v) = %v, %d", what(), oa, ob, l, e)
	}
	marked, e := merge.Marked(l, o, a, b)
	if e != api.OK || !text.Right(marked) {
		t.Fatalf("Marked(%v, %s) = %v, %d", l, what(), marked, e)
	}
	made, e := merge.Lines(l, o, a, b)
	from, other := merge.From(l, len(b))
	if e != other || (e == api.OK) != merge.Clean(l) {
		t.Fatalf("Lines(%v, %s) = %v, %d, and From %d", l, what(), made, e, other)
	}
	if e == api.OK && !slices.Equal(made, marked) || e != api.OK && (e != api.ErrClash || len(made)+len(from) > 0) {
		t.Fatalf("Lines(%v, %s) = %v, %d", l, what(), made, e)
	}
	if e == api.OK {
		checkFrom(t, l, made, from, a, b)
		checkOne(t, l, made, o, a, b)
	}
	back, e2 := merge.Of(o, b, a, ob, oa)
	if e2 != api.OK || !slices.Equal(back, changed(l)) {
		t.Fatalf("Of(%s, %v, %v) the other way round = %v, %d", what(), oa, ob, back, e2)
	}
	if again, e2 := merge.Lines(back, o, b, a); e2 != e || ending(o, a, oa) && ending(o, b, ob) && !slices.Equal(again, made) {
		t.Fatalf("Lines(%v, %s) = %v, %d, the other way round %v, %d", l, what(), made, e, again, e2)
	}
	return made, e
}

// checkFrom is P14.3 of what is clean: each line is where From says.
func checkFrom(t *testing.T, l []api.Piece, made []api.Line, from []api.Place, a, b []api.Line) {
	t.Helper()
	if len(from) != len(made) {
		t.Fatalf("From(%v) = %v, of %v", l, from, made)
	}
	for i, one := range from {
		side := a
		if one.Theirs {
			side = b
		}
		if made[i].Text != side[one.At].Text || made[i].Bare != (i == len(made)-1 && side[one.At].Bare) {
			t.Fatalf("From(%v) = %v, of %v: %v", l, from, made, one)
		}
	}
}

// checkOne is P14.6 of what is clean: piece by piece, what was made is what one side has, where the other one has what was there.
func checkOne(t *testing.T, l []api.Piece, made, o, a, b []api.Line) {
	t.Helper()
	left := plain(made)
	for _, p := range l {
		c := p.Chunk
		base, mine, theirs := plain(o[c.O:c.O+c.ON]), plain(a[c.A:c.A+c.AN]), plain(b[c.B:c.B+c.BN])
		want := mine
		if mine == base {
			want = theirs
		}
		is := false
		if left, is = strings.CutPrefix(left, want); !is || mine != base && theirs != base && mine != theirs {
			t.Fatalf("%v of %s, %s, %s: %s", l, told(o), told(a), told(b), told(made))
		}
	}
	if left != "" {
		t.Fatalf("%v of %s, %s, %s: %s", l, told(o), told(a), told(b), told(made))
	}
}

// P14.1 to P14.3, P14.5, P14.6: of all short texts, and all their matches.
func TestOfAll(t *testing.T) {
	short := texts(2)
	for _, o := range texts(3) {
		for _, a := range short {
			for _, b := range short {
				for _, oa := range matches(o, a) {
					for _, ob := range matches(o, b) {
						checkOf(t, o, a, b, oa, ob)
					}
				}
			}
		}
	}
}

// P14.4: what is changed on one side alone, of all short texts.
func TestOneSide(t *testing.T) {
	short := texts(4)
	for _, o := range short {
		same := all(len(o))
		for _, a := range short {
			for _, oa := range matches(o, a) {
				if made, e := checkOf(t, o, o, a, same, oa); e != api.OK || !slices.Equal(made, a) {
					t.Fatalf("%s, the same and %s, %v: %s, %d", told(o), told(a), oa, told(made), e)
				}
				made, e := checkOf(t, o, a, a, oa, oa)
				if e != api.OK || !slices.Equal(made, a) {
					t.Fatalf("%s, and %s twice, %v: %s, %d", told(o), told(a), oa, told(made), e)
				}
				// What is matched is told as b has it, so that the end of a is a's where it is alike in that.
				made, e = checkOf(t, o, a, o, oa, same)
				if e != api.OK || ending(o, a, oa) && !slices.Equal(made, a) {
					t.Fatalf("%s, %s and the same, %v: %s, %d", told(o), told(a), oa, told(made), e)
				}
			}
		}
	}
}

// P14.1 to P14.6: of as many lines as may be, with a change in each other line, on one side and the other one in turn.
func TestMany(t *testing.T) {
	o := row(strings.Repeat("xy", 200))
	a, b := slices.Clone(o), slices.Clone(o)
	var oa, ob [][2]int
	var want []api.Line
	for i := range o {
		switch i % 4 {
		case 0:
			a[i].Text = "A"
			ob = append(ob, [2]int{i, i})
			want = append(want, a[i])
			continue
		case 2:
			b[i].Text = "B"
			oa = append(oa, [2]int{i, i})
			want = append(want, b[i])
			continue
		}
		oa, ob = append(oa, [2]int{i, i}), append(ob, [2]int{i, i})
		want = append(want, o[i])
	}
	made, e := checkOf(t, o, a, b, oa, ob)
	if e != api.OK || !slices.Equal(made, want) {
		t.Errorf("%s, %d", told(made), e)
	}
}

// P3: what is handed in stays as it is, spare room too.
func TestArgumentsStay(t *testing.T) {
	room := func(s string) []api.Line {
		return append(row(s), api.Line{Text: "spare", Bare: true}, api.Line{Text: "room"})
	}
	spare := func(numbers ...int) [][2]int { return append(pairs(numbers...), pairs(-7, -7, -8, -8)...) }
	o, a, b := room("pxq~"), room("pyyq~"), room("pqz~")
	oa, ob := spare(0, 0, 2, 3), spare(0, 0, 2, 1)
	merge.Of(o[:3], a[:4], b[:3], oa[:2], ob[:2])
	pieces := func() []api.Piece {
		return []api.Piece{stable(0, 0, 0, 1), piece(api.Mine, 1, 1, 1, 2, 1, 0), stable(2, 3, 1, 1), piece(api.Theirs, 3, 0, 4, 0, 2, 1), stable(9, 9, 9, 9)}
	}
	l, m := pieces(), pieces()
	m[1].Side = api.Clash
	for _, p := range [][]api.Piece{l[:4], m[:4]} {
		merge.Clean(p)
		merge.Lines(p, o[:3], a[:4], b[:3])
		merge.Marked(p, o[:3], a[:4], b[:3])
		merge.From(p, 3)
	}
	if !slices.Equal(o, room("pxq~")) || !slices.Equal(a, room("pyyq~")) || !slices.Equal(b, room("pqz~")) {
		t.Errorf("left: %v, %v, %v", o, a, b)
	}
	if !slices.Equal(oa, spare(0, 0, 2, 3)) || !slices.Equal(ob, spare(0, 0, 2, 1)) {
		t.Errorf("left: %v, %v", oa, ob)
	}
	if m[1].Side = api.Mine; !slices.Equal(l, pieces()) || !slices.Equal(m, pieces()) {
		t.Errorf("left: %v, %v", l, m)
	}
}

// spoil writes into all of a list, and behind it.
func spoil[E any](l []E, with E) {
	l = l[:cap(l)]
	for i := range l {
		l[i] = with
	}
}

// P3, P6: what is answered lies in nothing that was handed in, and nothing is kept.
func TestAnswersAreNew(t *testing.T) {
	o, a, b := row("x"), row("yy~"), row("x")
	mine, clash := []api.Piece{piece(api.Mine, 0, 1, 0, 2, 0, 1)}, []api.Piece{piece(api.Clash, 0, 1, 0, 2, 0, 1)}
	both := []api.Piece{piece(api.Both, 0, 1, 0, 2, 0, 1)}
	for range 3 {
		l, e := merge.Of(o, a, b, nil, nil)
		if e != api.OK || !slices.Equal(l, mine) {
			t.Fatalf("%v, %d", l, e)
		}
		spoil(l, piece(9, 9, 9, 9, 9, 9, 9))
		for _, p := range [][]api.Piece{mine, both} {
			made, e := merge.Lines(p, o, a, b)
			again, _ := merge.Marked(p, o, a, b)
			if e != api.OK || len(made) == 0 || !slices.Equal(made, again) {
				t.Fatalf("%v, %v, %d", made, again, e)
			}
			spoil(made, api.Line{Text: "z"})
			spoil(again, api.Line{Text: "z"})
		}
		m, e := merge.Marked(clash, o, a, b)
		if e != api.OK || told(m) != "<<<<<<< mineyy||||||| basex=======x>>>>>>> theirs" {
			t.Fatalf("%v, %d", m, e)
		}
		spoil(m, api.Line{Text: "z"})
		from, e := merge.From(mine, 1)
		if e != api.OK || !slices.Equal(from, []api.Place{{At: 0}, {At: 1}}) {
			t.Fatalf("%v, %d", from, e)
		}
		spoil(from, api.Place{At: 9})
	}
	if told(o) != "x" || told(a) != "yy~" || told(b) != "x" {
		t.Errorf("left: %s, %s, %s", told(o), told(a), told(b))
	}
}

// FuzzTexts is P1, P14.1 to P14.6: of any three texts, matched as far as the bytes say it, and of pieces that no call made.
func FuzzTexts(f *testing.F) {
	f.Add("1\n2\n3\n4\n5\n6\n", "1\n4\n5\n2\n3\n6\n", "1\n2\n4\n5\n3\n6", uint64(0), 0, 1)
	f.Add("x\ny", "x\ny\nz", "w\nx\ny\n", uint64(5), 2, -1)
	f.Add("\n\n\n", "\n\n", "\n\n\n\n", uint64(math.MaxUint64), math.MaxInt, math.MinInt)
	f.Fuzz(func(t *testing.T, x, y, z string, skip uint64, n, m int) {
		o, a, b := text.Lines([]byte(x)), text.Lines([]byte(y)), text.Lines([]byte(z))
		if max(len(o), len(a), len(b)) > 60 {
			return
		}
		// Line by line the next alike one is taken, or left, bit by bit.
		near := func(x, y []api.Line) [][2]int {
			var p [][2]int
			j := 0
			for i := range x {
				at := slices.IndexFunc(y[j:], func(l api.Line) bool { return l.Text == x[i].Text })
				if at >= 0 && skip&1 == 0 {
					p, j = append(p, [2]int{i, j + at}), j+at+1
				}
				skip >>= 1
			}
			return p
		}
		oa, ob := near(o, a), near(o, b)
		checkOf(t, o, a, b, oa, ob)
		l, _ := merge.Of(o, a, b, oa, ob)
		if len(l) == 0 {
			return
		}
		// What is not right is answered, too.
		wild := &l[uint(n)%uint(len(l))]
		for k, field := range []*int{&wild.Chunk.O, &wild.Chunk.ON, &wild.Chunk.A, &wild.Chunk.AN, &wild.Chunk.B, &wild.Chunk.BN, (*int)(&wild.Side)} {
			was := *field
			*field = m
			chunks := []api.Chunk{}
			sided := true
			for _, p := range l {
				chunks, sided = append(chunks, p.Chunk), sided && p.Side >= api.Both && p.Side <= api.Clash
			}
			ok := sided && chunk.Right(chunks, len(o), len(a), len(b))
			made, e := merge.Marked(l, o, a, b)
			if (e == api.OK) != ok || e != api.OK && (e != api.ErrForm || len(made) > 0) {
				t.Fatalf("Marked(%v) = %v, %d: %d", l, made, e, k)
			}
			made, e = merge.Lines(l, o, a, b)
			if (e == api.OK) != (ok && merge.Clean(l)) || e != api.OK && len(made) > 0 {
				t.Fatalf("Lines(%v) = %v, %d: %d", l, made, e, k)
			}
			if from, e := merge.From(l, len(b)); e != api.OK && len(from) > 0 {
				t.Fatalf("From(%v) = %v, %d: %d", l, from, e, k)
			}
			*field = was
		}
	})
}
