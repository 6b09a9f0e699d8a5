package item_test

import (
	"bytes"
	"math"
	"slices"
	"strconv"
	"strings"
	"testing"

	"jalousie/api"
	"jalousie/item"
	"jalousie/label"
)

const allCats = 1<<64 - 1

// wide is a policy that all right labels fit.
func wide() api.Policy {
	return api.Policy{Levels: 16, Cats: 64}
}

// of is a label by its text.
func of(s string) api.Label {
	a, is := label.Parse(s)
	if !is {
		panic("no label: " + s)
	}
	return a
}

// line is an item of content, and bare one that is Bare; anchor is an anchor.
func line(a, s string) api.Item {
	return api.Item{Label: of(a), Line: api.Line{Text: s}}
}

func bare(a, s string) api.Item {
	return api.Item{Label: of(a), Line: api.Line{Text: s, Bare: true}}
}

func anchor(a string) api.Item {
	return api.Item{Label: of(a), Anchor: true}
}

// counted is items with the IDs 1, 2, ...
func counted(l ...api.Item) []api.Item {
	l = slices.Clone(l)
	for i := range l {
		l[i].ID = i + 1
	}
	return l
}

// parse is of a marked text that has items.
func parse(t *testing.T, s string, p api.Policy, floor api.Label) []api.Item {
	t.Helper()
	l, n, e := item.Parse([]byte(s), p, floor)
	if n != 0 || e != api.OK {
		t.Fatalf("Parse(%.200q): line %d, error %d", s, n, e)
	}
	return l
}

// refuse is of a marked text that has none.
func refuse(t *testing.T, s string, p api.Policy, floor api.Label, line int, want api.Errno) {
	t.Helper()
	l, n, e := item.Parse([]byte(s), p, floor)
	if n != line || e != want || len(l) > 0 {
		t.Errorf("Parse(%.200q): %d items, line %d, error %d; not %d, %d", s, len(l), n, e, line, want)
	}
}

// print is of items that may be printed.
func print(t *testing.T, l []api.Item, floor api.Label) string {
	t.Helper()
	b, e := item.Print(l, floor)
	if e != api.OK {
		t.Fatalf("Print(%v): error %d", l, e)
	}
	return string(b)
}

// regions is n regions of one label, open within each other, and then closed.
func regions(n int, a, within string) string {
	return strings.Repeat("@@ begin "+a+"\n", n) + within + strings.Repeat("@@ end\n", n)
}

// P4.1: Parse of content, marks and anchors.
func TestParse(t *testing.T) {
	for _, c := range []struct {
		s    string
		want []api.Item
	}{
		{"", nil},
		{"@@ begin 1\nx\n@@ end\ny\n", counted(line("1", "x"), line("0", "y"))},
		{"@@@@ a\n", counted(line("0", "@@@ a"))},
		{"@@@\n@@@x\n@@@ end\n@@@@\n", counted(line("0", "@@"), line("0", "@@x"), line("0", "@@ end"), line("0", "@@@"))},
		{"@\n@x\n@ @@ end\n @@ end\nx@@ end\n@ end\n", counted(line("0", "@"), line("0", "@x"), line("0", "@ @@ end"), line("0", " @@ end"), line("0", "x@@ end"), line("0", "@ end"))},
		{"\n\n", counted(line("0", ""), line("0", ""))},
		{"x", counted(bare("0", "x"))},
		{"x\ny", counted(line("0", "x"), bare("0", "y"))},
		{"@@@", counted(bare("0", "@@"))},
		{"@@ anchor\n", counted(anchor("0"))},
		{"@@ anchor", counted(anchor("0"))},
		{"x\n@@ bare\n", counted(bare("0", "x"))},
		{"x\n@@ bare", counted(bare("0", "x"))},
		{"x\n@@ bare\ny\n@@ bare\nz", counted(bare("0", "x"), bare("0", "y"), bare("0", "z"))},
		{"@@@\n@@ bare\n", counted(bare("0", "@@"))},
		{" \n@@ bare\n", counted(bare("0", " "))},
		{"\x00\xff\r\n", counted(line("0", "\x00\xff\r"))},
		{"@@ begin 0\n@@ end", nil},
		{"@@ begin 0\nx\n@@ end\n", counted(line("0", "x"))},
		{"@@ begin 1\n@@ begin 1\nx\n@@ end\ny\n@@ end\nz\n", counted(line("1", "x"), line("1", "y"), line("0", "z"))},
		{"a\n@@ begin 1\nb\n@@ anchor\n@@ begin 2:1\nc\n@@ bare\n@@ end\nd\n@@ begin 1:0\ne\n@@ end\n@@ end\n@@ begin 3\nf\n@@ end\ng", counted(line("0", "a"), line("1", "b"),
			anchor("1"), bare("2:1", "c"), line("1", "d"), line("1:0", "e"), line("3", "f"), bare("0", "g"))},
	} {
		if got := parse(t, c.s, wide(), api.Label{}); !slices.Equal(got, c.want) {
			t.Errorf("Parse(%q) = %v", c.s, got)
		}
	}
	if l, n, e := item.Parse(nil, api.Policy{}, api.Label{}); len(l) != 0 || n != 0 || e != api.OK {
		t.Errorf("of nil: %v, %d, %d", l, n, e)
	}
}

// P4.1: ahead of all a region of the floor is open.
func TestParseAtAFloor(t *testing.T) {
	floor := of("2:1")
	got := parse(t, "x\n@@ anchor\n@@ begin 2:1\ny\n@@ end\n@@ begin 3:0,1\nz\n@@ end\nw\n", wide(), floor)
	if want := counted(line("2:1", "x"), anchor("2:1"), line("2:1", "y"), line("3:0,1", "z"), line("2:1", "w")); !slices.Equal(got, want) {
		t.Errorf("%v", got)
	}
	refuse(t, "@@ begin 1:1\n@@ end\n", wide(), floor, 1, api.ErrLabel)
	refuse(t, "@@ begin 2\n@@ end\n", wide(), floor, 1, api.ErrLabel)
	refuse(t, "@@ begin 9:0\n@@ end\n", wide(), floor, 1, api.ErrLabel)
	refuse(t, "@@ end\n", wide(), floor, 1, api.ErrForm)
	if got := parse(t, "x\n", api.Policy{}, floor); !slices.Equal(got, counted(line("2:1", "x"))) {
		t.Errorf("a floor need not fit: %v", got)
	}
}

// P4.1: a line that is none of content and marks.
func TestParseOtherLines(t *testing.T) {
	for _, s := range []string{
		"@@", "@@x", "@@end", "@@\tend", "@@ ", "@@  ", "@@ x", "@@ End", "@@ end ", "@@  end", "@@ end x", "@@ anchor ", "@@ anchors", "@@ ANCHOR", "@@ bare ", "@@ bare x",
		"@@ begin", "@@ begin ", "@@ begin x", "@@ begin  1", "@@ begin 1 ", "@@ begin 1 2", "@@ begin 01", "@@ begin 16", "@@ begin 1:", "@@ begin 1:1,0", "@@ begin 1:64", "@@ begin -1",
		"@@ begin ?", "@@ beginning 1", "@@ begin1", "@@ end\r", "@@ anchor\r", "@@ @@ end", "@@ " + strings.Repeat(" ", 300), "@@\x00", "@@ \xff",
	} {
		for _, end := range []string{"", "\n", "\n@@\n"} {
			refuse(t, s+end, wide(), api.Label{}, 1, api.ErrForm)
			refuse(t, "x\n"+s+end, wide(), api.Label{}, 2, api.ErrForm)
			refuse(t, "@@ begin 1\nx\n"+s+end, wide(), api.Label{}, 3, api.ErrForm)
		}
	}
}

// P4.1: @@ begin.
func TestParseBegin(t *testing.T) {
	p := api.Policy{Levels: 3, Cats: 2}
	for _, c := range []struct {
		open, a string
		want    api.Errno
	}{
		{"0", "2:0,1", api.OK}, {"0", "3", api.ErrLabel}, {"0", "15", api.ErrLabel}, {"0", "0:2", api.ErrLabel}, {"0", "0:0,2", api.ErrLabel}, {"0", "0:63", api.ErrLabel},
		{"1", "1", api.OK}, {"1", "2", api.OK}, {"1", "0", api.ErrLabel}, {"1", "0:0", api.ErrLabel}, {"1:0", "1:0,1", api.OK}, {"1:0", "1:1", api.ErrLabel}, {"1:0", "2", api.ErrLabel},
		{"1:0", "1:0", api.OK}, {"2:0,1", "2:0,1", api.OK}, {"2:0,1", "2:0", api.ErrLabel}, {"0", "16", api.ErrForm}, {"0", "0:1,0", api.ErrForm},
	} {
		s := "@@ begin " + c.open + "\n@@ begin " + c.a + "\nx\n@@ end\n@@ end\n"
		if c.want == api.OK {
			if got := parse(t, s, p, api.Label{}); !slices.Equal(got, counted(line(c.a, "x"))) {
				t.Errorf("%q: %v", s, got)
			}
		} else {
			refuse(t, s, p, api.Label{}, 2, c.want)
		}
	}
	for _, wild := range []api.Policy{{}, {Levels: -1, Cats: 5}, {Levels: 5, Cats: -1}, {Levels: math.MinInt, Cats: math.MinInt}} {
		refuse(t, "@@ begin 0\n@@ end\n", wild, api.Label{}, 1, api.ErrLabel)
	}
	parse(t, "@@ begin 15:63\n@@ end\n", api.Policy{Levels: math.MaxInt, Cats: math.MaxInt}, api.Label{})
	refuse(t, "@@ begin 0\n@@ end\n@@ begin 2\n@@ end\n@@ begin 1\n@@ begin 0\n", p, api.Label{}, 6, api.ErrLabel)
}

// P4.1, P2: so many regions may be open, the floor's not counted; the other faults of @@ begin are named first.
func TestParseDepth(t *testing.T) {
	if got := parse(t, regions(16, "1", "x\n"), wide(), api.Label{}); !slices.Equal(got, counted(line("1", "x"))) {
		t.Errorf("16 regions: %v", got)
	}
	parse(t, regions(16, "1", "@@ end\n@@ begin 1\n"), wide(), of("1"))
	refuse(t, regions(17, "1", "x\n"), wide(), api.Label{}, 17, api.ErrLimit)
	refuse(t, regions(16, "1", "@@ begin 0\n"), wide(), api.Label{}, 17, api.ErrLabel)
	refuse(t, regions(16, "1", "@@ begin 2\n"), api.Policy{Levels: 2}, api.Label{}, 17, api.ErrLabel)
	refuse(t, regions(16, "1", "@@ begin x\n"), wide(), api.Label{}, 17, api.ErrForm)
	parse(t, strings.Repeat("@@ begin 1\n@@ end\n", 1000), wide(), api.Label{})
}

// P4.1: @@ end.
func TestParseEnd(t *testing.T) {
	refuse(t, "@@ end", wide(), api.Label{}, 1, api.ErrForm)
	refuse(t, "x\n@@ end\n", wide(), api.Label{}, 2, api.ErrForm)
	refuse(t, regions(2, "1", "x\n")+"@@ end\n", wide(), api.Label{}, 6, api.ErrForm)
	refuse(t, "@@ begin 1\n", wide(), api.Label{}, 0, api.ErrForm)
	refuse(t, "@@ begin 1", wide(), api.Label{}, 0, api.ErrForm)
	refuse(t, "@@ begin 0\nx\n", wide(), api.Label{}, 0, api.ErrForm)
	refuse(t, "@@ begin 1\n@@ begin 1\n@@ end\nx", wide(), api.Label{}, 0, api.ErrForm)
}

// P4.1: @@ bare stands just behind content that is not empty.
func TestParseBare(t *testing.T) {
	for _, c := range []struct {
		s    string
		line int
	}{
		{"@@ bare", 1}, {"\n@@ bare\n", 2}, {"x\n\n@@ bare\n", 3}, {"@@ anchor\n@@ bare\n", 2}, {"x\n@@ anchor\n@@ bare\n", 3}, {"x\n@@ bare\n@@ bare\n", 3},
		{"x\n@@ begin 1\n@@ bare\n@@ end\n", 3}, {"@@ begin 1\nx\n@@ end\n@@ bare\n", 4}, {"@@ begin 1\n@@ bare\n@@ end\n", 2}, {"x\n@@ begin 0\n@@ end\n@@ bare\n", 4},
	} {
		refuse(t, c.s, wide(), api.Label{}, c.line, api.ErrForm)
	}
	got := parse(t, "@@ begin 1\nx\n@@ bare\n@@ end\ny\n@@ bare\n\n", wide(), api.Label{})
	if want := counted(bare("1", "x"), bare("0", "y"), line("0", "")); !slices.Equal(got, want) {
		t.Errorf("%v", got)
	}
}

// P4.1: content of more bytes than may be; the further @ is none of it.
func TestParseLongContent(t *testing.T) {
	for _, s := range []string{strings.Repeat("x", 200), "@" + strings.Repeat("x", 199), strings.Repeat("\xff", 200)} {
		for _, end := range []string{"", "\n"} {
			parse(t, s+end, wide(), api.Label{})
			refuse(t, "\n"+s+"x"+end, wide(), api.Label{}, 2, api.ErrLimit)
		}
	}
	for _, s := range []string{"@@@" + strings.Repeat("x", 198), strings.Repeat("@", 201)} {
		if got := parse(t, s+"\n", wide(), api.Label{}); !slices.Equal(got, counted(line("0", s[1:]))) {
			t.Errorf("%q: %v", s, got)
		}
		refuse(t, s+"@\n", wide(), api.Label{}, 1, api.ErrLimit)
	}
	refuse(t, "@@x"+strings.Repeat("x", 300), wide(), api.Label{}, 1, api.ErrForm)
	refuse(t, "@@ "+strings.Repeat("x", 300), wide(), api.Label{}, 1, api.ErrForm)
}

// P4.1: more items than may be.
func TestParseTooManyItems(t *testing.T) {
	for _, one := range []string{"x\n", "\n", "@@ anchor\n", "x\n@@ bare\n"} {
		lines := strings.Count(one, "\n") * 400
		if got := parse(t, strings.Repeat(one, 400), wide(), api.Label{}); len(got) != 400 || got[399].ID != 400 {
			t.Errorf("400 of %q: %d", one, len(got))
		}
		for _, more := range []string{"x\n", "\n", "x", "@@ anchor\n", "@@ anchor"} {
			refuse(t, strings.Repeat(one, 400)+more, wide(), api.Label{}, lines+1, api.ErrLimit)
		}
		parse(t, strings.Repeat(one, 400)+regions(3, "1", ""), wide(), api.Label{})
		refuse(t, strings.Repeat(one, 400)+"@@ x\n", wide(), api.Label{}, lines+1, api.ErrForm)
	}
}

// P4.1, P2: more bytes than may be, whatever they say.
func TestParseTooLong(t *testing.T) {
	long := strings.Repeat("@@ begin 1\n@@ end\n", 1820) // 32760 bytes
	parse(t, long+"12345678", wide(), api.Label{})
	refuse(t, long+"123456789", wide(), api.Label{}, 0, api.ErrLimit)
	refuse(t, "@@\n"+long+"12345", wide(), api.Label{}, 1, api.ErrForm)
	refuse(t, "@@\n"+long+"123456", wide(), api.Label{}, 0, api.ErrLimit)
}

// P4.1: the first line that has a fault is told.
func TestParseFirstFault(t *testing.T) {
	refuse(t, "@@ begin 9\n@@\n", api.Policy{Levels: 1}, api.Label{}, 1, api.ErrLabel)
	refuse(t, "x\n@@\n@@ begin 9\n", api.Policy{Levels: 1}, api.Label{}, 2, api.ErrForm)
	refuse(t, strings.Repeat("x", 201)+"\n@@\n", wide(), api.Label{}, 1, api.ErrLimit)
	refuse(t, "@@ begin 1\n@@ x\n", wide(), api.Label{}, 2, api.ErrForm)
}

// P4.2: Check.
func TestCheck(t *testing.T) {
	long := strings.Repeat("x", 201)
	for _, c := range []struct {
		what  string
		floor string
		l     []api.Item
		want  api.Errno
	}{
		{"none", "3:1", nil, api.OK},
		{"content and an anchor", "0", []api.Item{line("0", "x"), anchor("1"), bare("2:1", "@@ end"), line("15:63", "")}, api.OK},
		{"401 items", "0", make([]api.Item, 401), api.OK},
		{"IDs of any size", "0", []api.Item{{ID: -1}, {ID: math.MaxInt}, {ID: -1}}, api.OK},
		{"200 bytes", "0", []api.Item{line("0", long[1:])}, api.OK},
		{"201 bytes", "0", []api.Item{line("0", "x"), line("0", long)}, api.ErrLimit},
		{"201 bytes of an anchor", "0", []api.Item{{Anchor: true, Line: api.Line{Text: long}}}, api.ErrLimit},
		{"a level below 0", "0", []api.Item{{Label: api.Label{Level: -1}}}, api.ErrLabel},
		{"too high a level", "0", []api.Item{{Label: api.Label{Level: 16}}}, api.ErrLabel},
		{"the top", "0", []api.Item{{Label: label.Top()}}, api.OK},
		{"the floor", "2:1", []api.Item{line("2:1", "x")}, api.OK},
		{"above the floor", "2:1", []api.Item{line("3:0,1", "x")}, api.OK},
		{"below the floor's level", "2:1", []api.Item{line("2:1", "x"), line("1:1", "x")}, api.ErrLabel},
		{"without the floor's category", "2:1", []api.Item{line("3:0", "x")}, api.ErrLabel},
		{"an anchor below the floor", "2", []api.Item{anchor("1")}, api.ErrLabel},
		{"a byte 10", "0", []api.Item{line("0", "x"), line("0", "x\ny")}, api.ErrForm},
		{"a byte 10 at the end", "0", []api.Item{line("0", "x\n")}, api.ErrForm},
		{"a byte 10 alone", "0", []api.Item{bare("0", "\n")}, api.ErrForm},
		{"empty and Bare", "0", []api.Item{bare("0", "")}, api.ErrForm},
		{"empty and Bare, not the last", "0", []api.Item{bare("0", ""), line("0", "x")}, api.ErrForm},
		{"Bare, not the last", "0", []api.Item{bare("0", "x"), line("0", "x")}, api.OK},
		{"an anchor's text", "0", []api.Item{{Anchor: true, Line: api.Line{Text: "x"}}}, api.ErrForm},
		{"an anchor that is Bare", "0", []api.Item{{Anchor: true, Line: api.Line{Bare: true}}}, api.ErrForm},
		{"a label ahead of a limit", "2", []api.Item{line("0", "x"), line("2", long)}, api.ErrLimit},
		{"a form ahead of a limit", "0", []api.Item{line("0", "\n"), line("0", long)}, api.ErrLimit},
		{"a form ahead of a label", "1", []api.Item{line("1", "\n"), line("0", "x")}, api.ErrLabel},
		{"all in one", "1", []api.Item{line("0", long+"\n")}, api.ErrLimit},
	} {
		if e := item.Check(c.l, of(c.floor)); e != c.want {
			t.Errorf("%s: %d", c.what, e)
		}
		if b, e := item.Print(c.l, of(c.floor)); c.want != api.OK && (e != c.want || len(b) > 0) {
			t.Errorf("Print, %s: %q, %d", c.what, b, e)
		}
	}
}

// P4.2, P1: Check and Print at floors that are not right.
func TestWrongFloors(t *testing.T) {
	for _, level := range []int{math.MinInt, -1, 16, math.MaxInt} {
		for _, cats := range []uint64{0, 1, allCats} {
			floor := api.Label{Level: level, Cats: cats}
			if e := item.Check(nil, floor); e != api.OK {
				t.Errorf("no items at %v: %d", floor, e)
			}
			if b, e := item.Print(nil, floor); len(b) > 0 || e != api.OK {
				t.Errorf("no items at %v: %q, %d", floor, b, e)
			}
			if e := item.Check([]api.Item{{Label: floor}}, floor); e != api.ErrLabel {
				t.Errorf("an item of %v: %d", floor, e)
			}
			want := api.ErrLabel
			if level < 0 {
				want = api.OK
			}
			b, e := item.Print([]api.Item{{Label: label.Top()}}, floor)
			if e != want || (len(b) > 0) != (e == api.OK) {
				t.Errorf("an item of Top at %v: %q, %d", floor, b, e)
			}
			if l := parse(t, "x\n", wide(), floor); len(l) != 1 || l[0].Label != floor {
				t.Errorf("Parse at %v: %v", floor, l)
			}
		}
	}
	if got := print(t, []api.Item{line("0", "x")}, api.Label{Level: -1}); got != "@@ begin 0\nx\n@@ end\n" {
		t.Errorf("above a floor below 0: %q", got)
	}
}

// P4.3: Print.
func TestPrint(t *testing.T) {
	for _, c := range []struct {
		floor string
		l     []api.Item
		want  string
	}{
		{"0", nil, ""},
		{"0", []api.Item{line("0", "x")}, "x\n"},
		{"0", []api.Item{bare("0", "x")}, "x\n@@ bare\n"},
		{"0", []api.Item{bare("0", "x"), line("0", ""), anchor("0")}, "x\n@@ bare\n\n@@ anchor\n"},
		{"0", []api.Item{line("0", "@"), line("0", "@@"), line("0", "@@ end"), line("0", "@@@"), line("0", " @@"), line("0", "@ @")}, "@\n@@@\n@@@ end\n@@@@\n @@\n@ @\n"},
		{"0", []api.Item{bare("0", "@@")}, "@@@\n@@ bare\n"},
		{"0", []api.Item{line("1", "x"), line("0", "y")}, "@@ begin 1\nx\n@@ end\ny\n"},
		{"0", []api.Item{line("1", "x"), line("2:0,7", "y"), anchor("2:0,7"), line("1", "z")}, "@@ begin 1\nx\n@@ begin 2:0,7\ny\n@@ anchor\n@@ end\nz\n@@ end\n"},
		{"0", []api.Item{line("2", "x"), line("1", "y")}, "@@ begin 2\nx\n@@ end\n@@ begin 1\ny\n@@ end\n"},
		{"0", []api.Item{line("1:0", "x"), line("1:1", "y"), line("1:0,1", "z")}, "@@ begin 1:0\nx\n@@ end\n@@ begin 1:1\ny\n@@ begin 1:0,1\nz\n@@ end\n@@ end\n"},
		{"0", []api.Item{line("1", "a"), line("2", "b"), line("3", "c"), line("0", "d")}, "@@ begin 1\na\n@@ begin 2\nb\n@@ begin 3\nc\n@@ end\n@@ end\n@@ end\nd\n"},
		{"0", []api.Item{line("1", "a"), line("3", "c"), line("2", "b")}, "@@ begin 1\na\n@@ begin 3\nc\n@@ end\n@@ begin 2\nb\n@@ end\n@@ end\n"},
		{"2:1", []api.Item{line("2:1", "x"), line("3:1", "y"), line("2:1", "z")}, "x\n@@ begin 3:1\ny\n@@ end\nz\n"},
		{"2:1", []api.Item{line("2:0,1", "x")}, "@@ begin 2:0,1\nx\n@@ end\n"},
		{"0", []api.Item{{ID: 7, Label: of("1"), Anchor: true}, {ID: 7, Label: of("1")}}, "@@ begin 1\n@@ anchor\n\n@@ end\n"},
	} {
		if got := print(t, c.l, of(c.floor)); got != c.want {
			t.Errorf("Print(%v) = %q", c.l, got)
		}
	}
}

// chain is labels that rise, each above the one ahead of it.
func chain(n int) []api.Label {
	var l []api.Label
	for i := range n {
		l = append(l, api.Label{Level: 1, Cats: 1<<i - 1})
	}
	return l
}

// P4.3: where MaxDepth regions are open, one is closed ahead of another one's label.
func TestPrintDepth(t *testing.T) {
	var l []api.Item
	var want string
	for i, a := range chain(18) {
		l = append(l, api.Item{Label: a, Line: api.Line{Text: "x"}}, api.Item{Label: a, Anchor: true})
		if i >= 16 {
			want += "@@ end\n"
		}
		want += "@@ begin " + label.Print(a) + "\nx\n@@ anchor\n"
	}
	// What is below all but the sixteenth, and the floor's.
	l = append(l, api.Item{Label: chain(15)[14], Line: api.Line{Text: "y"}}, line("0", "z"))
	want += "@@ end\ny\n" + strings.Repeat("@@ end\n", 15) + "z\n"
	got := print(t, l, api.Label{})
	if got != want {
		t.Errorf("%q, not %q", got, want)
	}
	if again := parse(t, got, wide(), api.Label{}); !slices.Equal(again, counted(l...)) {
		t.Errorf("parsed otherwise: %v", again)
	}
}

// P4.3: at the floor's region nothing is closed, however often labels change.
func TestPrintOfAll(t *testing.T) {
	var l []api.Item
	for _, a := range slices.Backward(chain(60)) {
		l = append(l, api.Item{Label: a})
	}
	got := print(t, l, api.Label{})
	if strings.Count(got, "@@ begin") != 60 || strings.Count(got, "@@ end") != 60 || !strings.HasSuffix(got, "@@ begin 1\n\n@@ end\n") {
		t.Errorf("%q", got)
	}
}

// P4.3, P2: more items than may be.
func TestPrintTooMany(t *testing.T) {
	if got := print(t, make([]api.Item, 400), api.Label{}); got != strings.Repeat("\n", 400) {
		t.Errorf("400 items: %q", got)
	}
	l := make([]api.Item, 401)
	if b, e := item.Print(l, api.Label{}); len(b) > 0 || e != api.ErrLimit {
		t.Errorf("401 items: %q, %d", b, e)
	}
	l[400].Line.Text = "\n"
	if b, e := item.Print(l, api.Label{}); len(b) > 0 || e != api.ErrForm {
		t.Errorf("Check's error comes first: %q, %d", b, e)
	}
}

// P4.3: more bytes than may be, and just as many.
func TestPrintTooLong(t *testing.T) {
	for more, want := range []api.Errno{api.OK, api.OK, api.ErrLimit} {
		var l []api.Item
		for range 163 {
			l = append(l, line("0", strings.Repeat("x", 200)))
		}
		l = append(l, line("0", strings.Repeat("y", 3+more))) // 163 of 201 bytes, and 4 + more: 32767 + more
		b, e := item.Print(l, api.Label{})
		if e != want || e == api.OK && len(b) != 32767+more || e != api.OK && len(b) > 0 {
			t.Errorf("%d bytes: %d, error %d", 32767+more, len(b), e)
		}
		if e == api.OK && !slices.Equal(parse(t, string(b), wide(), api.Label{}), counted(l...)) {
			t.Errorf("%d bytes are parsed otherwise", len(b))
		}
	}
}

// several is items of a few kinds, each of a few labels.
func several() []api.Item {
	var l []api.Item
	for _, a := range []string{"0", "1", "1:0", "1:1", "2:0,1"} {
		l = append(l, line(a, ""), bare(a, "@@ end"), anchor(a))
	}
	return l
}

// P4.4, P4.3: Parse of Print are the items, but for their IDs: all lists of up to three.
func TestParseOfPrint(t *testing.T) {
	p := api.Policy{Levels: 3, Cats: 2}
	lists := [][]api.Item{nil}
	last := lists
	for range 3 {
		var next [][]api.Item
		for _, l := range last {
			for i, one := range several() {
				one.ID = 99 - i
				next = append(next, append(slices.Clone(l), one))
			}
		}
		lists = append(lists, next...)
		last = next
	}
	for _, l := range lists {
		s := print(t, l, api.Label{})
		if got := parse(t, s, p, api.Label{}); !slices.Equal(got, counted(l...)) {
			t.Fatalf("%v is printed as %q and parsed as %v", l, s, got)
		}
	}
}

// P4.5, P1, P2: all texts of up to five lines of a few are answered; what was parsed is printed, parsed as the same, and printed so.
func TestPrintOfParse(t *testing.T) {
	p := api.Policy{Levels: 2, Cats: 1}
	some := []string{"", "x", "@@@", "@@ begin 0", "@@ begin 1:0", "@@ begin 1", "@@ end", "@@ anchor", "@@ bare"}
	texts := []string{""}
	last := texts
	for range 5 {
		var next []string
		for _, s := range last {
			for _, line := range some {
				next = append(next, s+line+"\n")
			}
		}
		texts = append(texts, next...)
		last = next
	}
	for _, s := range texts {
		l, n, e := item.Parse([]byte(s), p, api.Label{})
		if e != api.OK {
			if len(l) > 0 || n == 0 && e != api.ErrForm || n < 0 || n > 5 {
				t.Errorf("%q: %v, %d, %d", s, l, n, e)
			}
			continue
		}
		if n != 0 || item.Check(l, api.Label{}) != api.OK {
			t.Errorf("%q: %v, %d", s, l, n)
		}
		checkAgain(t, s, l, p, api.Label{})
	}
}

// checkAgain is P4.5, of items that were parsed of a text.
func checkAgain(t *testing.T, s string, l []api.Item, p api.Policy, floor api.Label) {
	t.Helper()
	first := print(t, l, floor)
	again := parse(t, first, p, floor)
	if !slices.Equal(again, l) {
		t.Errorf("%q: %v, and then %v", s, l, again)
	}
	if second := print(t, again, floor); second != first {
		t.Errorf("%q: %q, and then %q", s, first, second)
	}
}

// P3: what is handed in stays as it is, spare room too.
func TestArgumentsStay(t *testing.T) {
	const s = "x\n@@ bare\n@@ begin 1\n@@@\n@@ end\ny"
	room := []byte(s + "spare")
	p := wide()
	p.Users = []api.User{{Name: "ann"}}
	parse(t, string(room[:len(s)]), p, api.Label{})
	if _, _, e := item.Parse(room[:len(s)], p, api.Label{}); e != api.OK || string(room) != s+"spare" || p.Users[0].Name != "ann" {
		t.Errorf("Parse left %q", room)
	}
	l := counted(line("0", "@@"), bare("2", "x"), anchor("1"), line("3", "spare"))
	was := slices.Clone(l)
	item.Check(l[:3], api.Label{})
	item.Print(l[:3], api.Label{})
	if !slices.Equal(l, was) {
		t.Errorf("left: %v", l)
	}
}

// P3, P6: what is handed in is not kept, and what is answered is new.
func TestAnswersAreNew(t *testing.T) {
	const s = "x\n@@ bare\n@@ begin 1\n@@@\n@@ end\ny\n"
	want := counted(bare("0", "x"), line("1", "@@"), line("0", "y"))
	b := []byte(s)
	l, _, _ := item.Parse(b, wide(), api.Label{})
	for i := range b {
		b[i] = 'z'
	}
	if !slices.Equal(l, want) {
		t.Errorf("Parse kept what was handed in: %v", l)
	}
	again := parse(t, s, wide(), api.Label{})
	l[0].ID = 9
	if !slices.Equal(again, want) {
		t.Errorf("two answers share a list: %v", again)
	}
	one, _ := item.Print(again, api.Label{})
	two, _ := item.Print(again, api.Label{})
	one[0] = 'z'
	if string(two) != s || !slices.Equal(again, want) {
		t.Errorf("Print: %q", two)
	}
}

// P1, P2, P4.5, P6: any text is answered, twice the same, and what was parsed is printed and parsed as the same.
func FuzzParse(f *testing.F) {
	f.Add([]byte("open\n@@ begin 1\nsecret\n@@ anchor\n@@ begin 2:1\nmore\n@@ bare\n@@ end\n@@ end\n@@@ end\nlast"), 4, 3, 0, uint64(0))
	f.Add([]byte("@@ begin 1\n@@ begin 9\n"), 2, 64, -1, uint64(allCats))
	f.Add([]byte("x\n@@ bare"), math.MinInt, math.MaxInt, math.MaxInt, uint64(1))
	f.Add([]byte("@@"), -1, -1, 1, uint64(2))
	f.Fuzz(func(t *testing.T, b []byte, levels, cats, level int, cat uint64) {
		p, floor, was := api.Policy{Levels: levels, Cats: cats}, api.Label{Level: level, Cats: cat}, bytes.Clone(b)
		l, n, e := item.Parse(b, p, floor)
		m, k, again := item.Parse(b, p, floor)
		if !slices.Equal(l, m) || n != k || e != again || !bytes.Equal(b, was) {
			t.Errorf("%q: %v, %d, %d, and then %v, %d, %d", was, l, n, e, m, k, again)
		}
		if e != api.OK {
			if len(l) > 0 || n < 0 {
				t.Errorf("%q: %v, %d, %d", b, l, n, e)
			}
			return
		}
		if !label.Right(floor) {
			return
		}
		if e := item.Check(l, floor); n != 0 || e != api.OK {
			t.Errorf("%q: %v, %d, error %d", b, l, n, e)
		}
		if len(b) < api.MaxFile/2 {
			checkAgain(t, string(b), l, p, floor)
		}
	})
}

// P4.4, P1, P2: whatever items are handed in, they are refused, or parsed as they were.
func FuzzPrint(f *testing.F) {
	f.Add([]byte("\x00x\x11y\x22@@ end\x03\x34"), uint64(0))
	f.Add([]byte("\x80a\n\x7fb\xff"), uint64(1))
	f.Fuzz(func(t *testing.T, b []byte, cat uint64) {
		var l []api.Item
		for i, c := range b {
			one := api.Item{ID: i, Label: api.Label{Level: int(c % 17), Cats: cat >> (c % 64)}, Anchor: c%7 == 0}
			if !one.Anchor || c > 250 {
				one.Line = api.Line{Text: string(b[i:min(len(b), i+int(c%8))]), Bare: c%5 == 0}
			}
			l = append(l, one)
		}
		was := slices.Clone(l)
		s, e := item.Print(l, api.Label{})
		if !slices.Equal(l, was) || e != api.OK && len(s) > 0 {
			t.Fatalf("%v: %v, %q, %d", was, l, s, e)
		}
		if e == api.OK && !slices.Equal(parse(t, string(s), wide(), api.Label{}), counted(l...)) {
			t.Errorf("%v: %q", l, s)
		}
		if check := item.Check(l, api.Label{}); check != api.OK && e != check {
			t.Errorf("%s: %d, not %d", strconv.Quote(string(b)), e, check)
		}
	})
}
