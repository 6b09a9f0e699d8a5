package desk_test

import (
	"math"
	"slices"
	"strconv"
	"strings"
	"testing"

	"jalousie/api"
	"jalousie/desk"
	"jalousie/hunk"
	"jalousie/label"
	"jalousie/script"
	"jalousie/text"
	"jalousie/unified"
)

// of is a label by its text.
func of(s string) api.Label {
	a, is := label.Parse(s)
	if !is {
		panic("no label: " + s)
	}
	return a
}

// wrongLabels is labels that are not right; of some of them all floors lie below.
func wrongLabels() []api.Label {
	return []api.Label{{Level: -1}, {Level: 16, Cats: math.MaxUint64}, {Level: math.MinInt}, {Level: math.MaxInt, Cats: math.MaxUint64}}
}

// plain is a policy of small quotas.
func plain() api.Policy {
	return api.Policy{
		Levels: 4, Cats: 2, Lines: 6, Commits: 3, Log: 9, Context: 3, Hidden: "##",
		Floors: []api.Floor{{Prefix: "top/", Label: of("2")}, {Prefix: "top/c", Label: of("1:0")}, {Prefix: "mid", Label: of("1")}},
	}
}

// wide has quotas as great as they may be.
func wide() api.Policy {
	p := plain()
	p.Lines, p.Commits, p.Context = api.MaxLines, api.MaxCommits, api.MaxContext
	return p
}

// begin is a desk of a policy.
func begin(t *testing.T, p api.Policy) *desk.Desk {
	t.Helper()
	d, e := desk.New(p)
	if e != api.OK || d == nil {
		t.Fatalf("New: %d", e)
	}
	return d
}

// with is a desk of a policy and a file a.
func with(t *testing.T, p api.Policy, marked string) *desk.Desk {
	t.Helper()
	d := begin(t, p)
	ingest(t, d, "a", marked)
	return d
}

func ingest(t *testing.T, d *desk.Desk, name, marked string) {
	t.Helper()
	if e := d.Ingest(name, []byte(marked)); e != api.OK {
		t.Fatalf("Ingest(%s): %d", name, e)
	}
}

// cat is one's own commit k of a, as a text.
func cat(t *testing.T, d *desk.Desk, o string, k int) string {
	t.Helper()
	l, e := d.Cat("a", of(o), k)
	if e != api.OK {
		t.Fatalf("Cat at %s of %d: %d", o, k, e)
	}
	return string(text.Join(l))
}

// edit is a patch that makes this text of one's own commit k of a, with one line around.
func edit(t *testing.T, d *desk.Desk, o string, k int, made string) []byte {
	t.Helper()
	l, e := d.Cat("a", of(o), k)
	if e != api.OK {
		t.Fatalf("Cat at %s of %d: %d", o, k, e)
	}
	return patchOf(t, l, text.Lines([]byte(made)), 1)
}

// patchOf is a patch that makes the one text of the other one.
func patchOf(t *testing.T, from, to []api.Line, context int) []byte {
	t.Helper()
	s, e1 := script.Make(from, to)
	l, e2 := hunk.Build(s, context)
	b, e3 := unified.Print(l)
	if e1 != api.OK || e2 != api.OK || e3 != api.OK {
		t.Fatalf("no patch: %d, %d, %d", e1, e2, e3)
	}
	return b
}

// land has one's own commit k of a become this text, as the commit n.
func land(t *testing.T, d *desk.Desk, o string, k int, made string, n int) {
	t.Helper()
	send(t, d, o, k, string(edit(t, d, o, k, made)), n)
}

// send is a submit of a that becomes the commit n.
func send(t *testing.T, d *desk.Desk, o string, k int, patch string, n int) {
	t.Helper()
	if got, e := d.Submit("a", of(o), k, []byte(patch)); e != api.OK || got != n {
		t.Fatalf("Submit at %s of %d: %d, %d, not %d", o, k, got, e, n)
	}
}

// refuse is a submit, and a preview, that have this error, and change nothing.
func refuse(t *testing.T, d *desk.Desk, o string, k int, patch string, want api.Errno) []api.Line {
	t.Helper()
	items, labels := d.State("a")
	lines, e := d.Preview("a", of(o), k, []byte(patch))
	if e != want || e != api.ErrClash && len(lines) > 0 {
		t.Fatalf("Preview at %s of %d: %v, %d, not %d", o, k, lines, e, want)
	}
	if n, e := d.Submit("a", of(o), k, []byte(patch)); e != want || n != 0 {
		t.Fatalf("Submit at %s of %d: %d, %d, not %d", o, k, n, e, want)
	}
	if now, are := d.State("a"); !slices.Equal(now, items) || !slices.Equal(are, labels) {
		t.Fatalf("refused, and changed: %v, %v", now, are)
	}
	return lines
}

// told is items, told word by word: each one's label and text; an anchor is @.
func told(l []api.Item) string {
	var words []string
	for _, one := range l {
		word := label.Print(one.Label) + one.Line.Text
		if one.Anchor {
			word += "@"
		}
		words = append(words, word)
	}
	return strings.Join(words, " ")
}

// names is labels, told word by word.
func names(l []api.Label) string {
	var words []string
	for _, a := range l {
		words = append(words, label.Print(a))
	}
	return strings.Join(words, " ")
}

// P24.1: New has policy.Check's error, and a desk is without files.
func TestNew(t *testing.T) {
	for what, change := range map[string]func(p *api.Policy){
		"no levels":         func(p *api.Policy) { p.Levels = 0 },
		"no lines":          func(p *api.Policy) { p.Lines = 0 },
		"many commits":      func(p *api.Policy) { p.Commits = api.MaxCommits + 1 },
		"nothing hidden":    func(p *api.Policy) { p.Hidden = "" },
		"a wide context":    func(p *api.Policy) { p.Context = math.MaxInt },
		"a floor twice":     func(p *api.Policy) { p.Floors = append(p.Floors, p.Floors[0]) },
		"a floor too high":  func(p *api.Policy) { p.Floors[0].Label.Level = 4 },
		"a user of no name": func(p *api.Policy) { p.Users = []api.User{{}} },
		"a zero policy":     func(p *api.Policy) { *p = api.Policy{} },
	} {
		p := plain()
		change(&p)
		if d, e := desk.New(p); e != api.ErrArg || d != nil {
			t.Errorf("%s: %v, %d", what, d, e)
		}
	}
	d := begin(t, plain())
	if l := d.Names(label.Top()); len(l) != 0 {
		t.Errorf("files: %v", l)
	}
	if l, a := d.State("a"); len(l) != 0 || len(a) != 0 {
		t.Errorf("a file: %v, %v", l, a)
	}
}

// P24.1: Ingest, of what may be there, and what may not; what is named first counts.
func TestIngest(t *testing.T) {
	six, long := strings.Repeat("x\n", 6), strings.Repeat("x", 201)
	d := with(t, plain(), "x\n")
	for _, c := range []struct {
		name, b string
		want    api.Errno
	}{
		{"", "x\n", api.ErrForm},
		{"-", "x\n", api.ErrForm},
		{"b c", "x\n", api.ErrForm},
		{"b\x7f", "x\n", api.ErrForm},
		{"b\n", "x\n", api.ErrForm},
		{"\xff", "x\n", api.ErrForm},
		{strings.Repeat("b", 65), "x\n", api.ErrForm},
		{"-", strings.Repeat("x", api.MaxFile+1), api.ErrForm},
		{"a", "x\n", api.ErrKnown},
		{"a", "", api.ErrKnown},
		{"a", "@@\n", api.ErrKnown},
		{"a", strings.Repeat("x", api.MaxFile+1), api.ErrKnown},
		{"b", strings.Repeat("x", api.MaxFile+1), api.ErrLimit},
		{"b", "@@ end\n", api.ErrForm},
		{"b", "@@ begin 1\n", api.ErrForm},
		{"b", long + "\n", api.ErrLimit},
		{"b", "@@ begin 4\nx\n@@ end\n", api.ErrLabel},
		{"b", "@@ begin 0:2\nx\n@@ end\n", api.ErrLabel},
		{"top/b", "@@ begin 1\nx\n@@ end\n", api.ErrLabel},
		{"top/c", "@@ begin 2\nx\n@@ end\n", api.ErrLabel},
		{"b", six + "x\n@@\n", api.ErrForm},
		{"b", six + "x\n" + long, api.ErrLimit},
		{"b", six + "x\n", api.ErrQuota},
		{"b", six + "x", api.ErrQuota},
		{"b", "y\n@@ begin 3:0,1\n" + six + "x\n@@ end\n", api.ErrQuota},
		{"b", strings.Repeat("@@ anchor\n", 7) + "x\n" + six, api.ErrQuota},
	} {
		if e := d.Ingest(c.name, []byte(c.b)); e != c.want {
			t.Errorf("%q, %.20q: %d, not %d", c.name, c.b, e, c.want)
		}
		// What was refused is not there.
		if l := d.Names(label.Top()); !slices.Equal(l, []string{"a"}) {
			t.Fatalf("%q, %.20q: files %v", c.name, c.b, l)
		}
	}
	if l, a := d.State("a"); told(l) != "0x" || names(a) != "0" {
		t.Errorf("a: %v, %v", told(l), names(a))
	}
}

// P24.1: what was ingested is the commit 0, at the file's floor.
func TestIngested(t *testing.T) {
	six := strings.Repeat("x\n", 6)
	d := begin(t, plain())
	for _, c := range []struct {
		name, b      string
		items, floor string
	}{
		{"a", "", "", "0"},
		{"b", "x\n@@ begin 1\ns\n@@ anchor\n@@ end\ny", "0x 1s 1@ 0y", "0"},
		{"--", six + "@@ begin 1\n" + six + "@@ end\n", "0x 0x 0x 0x 0x 0x 1x 1x 1x 1x 1x 1x", "0"},
		{"anchors", six + strings.Repeat("@@ anchor\n", 2), "0x 0x 0x 0x 0x 0x 0@ 0@", "0"},
		{"top/x", "x\n@@ begin 2:1\ny\n@@ end\n", "2x 2:1y", "2"},
		{"top/cx", "@@ begin 3:0,1\nx\n@@ end\ny\n", "3:0,1x 2:0y", "2:0"},
		{"top", "x\n", "0x", "0"},
		{"mid", "x\n", "1x", "1"},
		{strings.Repeat("~", 64), "@@@@ x\n", "0@@@ x", "0"},
	} {
		ingest(t, d, c.name, c.b)
		l, a := d.State(c.name)
		if told(l) != c.items || names(a) != c.floor {
			t.Errorf("%s: %s, %s", c.name, told(l), names(a))
		}
		for i, one := range l {
			if one.ID != i+1 {
				t.Errorf("%s: the ID %d at %d", c.name, one.ID, i)
			}
		}
	}
	for _, c := range []struct{ o, want string }{
		{"0", "-- a anchors b top " + strings.Repeat("~", 64)},
		{"0:0,1", "-- a anchors b top " + strings.Repeat("~", 64)},
		{"1", "-- a anchors b mid top " + strings.Repeat("~", 64)},
		{"2", "-- a anchors b mid top top/x " + strings.Repeat("~", 64)},
		{"15:1", "-- a anchors b mid top top/x " + strings.Repeat("~", 64)},
		{"2:0", "-- a anchors b mid top top/cx top/x " + strings.Repeat("~", 64)},
	} {
		if got := strings.Join(d.Names(of(c.o)), " "); got != c.want {
			t.Errorf("Names at %s: %s", c.o, got)
		}
	}
	for _, o := range wrongLabels() {
		if l := d.Names(o); len(l) != 0 {
			t.Errorf("Names at %v: %v", o, l)
		}
	}
}

// call is a call that has an error, by its name; told is whether it answered anything else.
type call struct {
	what   string
	commit bool // it names one
	do     func(d *desk.Desk, name string, o api.Label, k int) (told bool, e api.Errno)
}

func calls() []call {
	patch := []byte("@@ -1,1 +1,1 @@\n-x\n+X\n")
	return []call{
		{"Log", false, func(d *desk.Desk, name string, o api.Label, _ int) (bool, api.Errno) {
			l, e := d.Log(name, o)
			return len(l) > 0, e
		}},
		{"Export", false, func(d *desk.Desk, name string, o api.Label, _ int) (bool, api.Errno) {
			b, e := d.Export(name, o)
			return len(b) > 0, e
		}},
		{"Rank", false, func(d *desk.Desk, name string, o api.Label, _ int) (bool, api.Errno) {
			b, e := d.Rank(name, o)
			return len(b) > 0, e
		}},
		{"Cat", true, func(d *desk.Desk, name string, o api.Label, k int) (bool, api.Errno) {
			l, e := d.Cat(name, o, k)
			return len(l) > 0, e
		}},
		{"Labels", true, func(d *desk.Desk, name string, o api.Label, k int) (bool, api.Errno) {
			l, e := d.Labels(name, o, k)
			return len(l) > 0, e
		}},
		{"Diff to", true, func(d *desk.Desk, name string, o api.Label, k int) (bool, api.Errno) {
			b, e := d.Diff(name, o, 0, k, 0)
			return len(b) > 0, e
		}},
		{"Diff from", true, func(d *desk.Desk, name string, o api.Label, k int) (bool, api.Errno) {
			b, e := d.Diff(name, o, k, 0, 0)
			return len(b) > 0, e
		}},
		{"Preview", true, func(d *desk.Desk, name string, o api.Label, k int) (bool, api.Errno) {
			l, e := d.Preview(name, o, k, patch)
			return len(l) > 0, e
		}},
		{"Submit", true, func(d *desk.Desk, name string, o api.Label, k int) (bool, api.Errno) {
			n, e := d.Submit(name, o, k, patch)
			return n != 0, e
		}},
	}
}

// P24.2 to P24.4: what one does not see is gone, and so are its commits.
func TestGone(t *testing.T) {
	d := with(t, plain(), "x\n")
	ingest(t, d, "top/a", "x\n")
	land(t, d, "1", 0, "x\ns\n", 1)
	for _, c := range calls() {
		for _, name := range []string{"", "-", "A", "a ", "top/", "top/a"} {
			if is, e := c.do(d, name, of("1"), 0); is || e != api.ErrGone {
				t.Errorf("%s of %q: %d", c.what, name, e)
			}
		}
		for _, o := range wrongLabels() {
			if is, e := c.do(d, "a", o, 0); is || e != api.ErrGone {
				t.Errorf("%s at %v: %d", c.what, o, e)
			}
		}
		// One may read level 2, but not its category; and the other way round.
		for _, o := range []string{"0", "1", "1:0,1"} {
			if is, e := c.do(d, "top/a", of(o), 0); is || e != api.ErrGone {
				t.Errorf("%s of top/a at %s: %d", c.what, o, e)
			}
		}
		if !c.commit {
			continue
		}
		for _, k := range []int{-1, 2, math.MinInt, math.MaxInt} {
			if is, e := c.do(d, "a", of("1"), k); is || e != api.ErrGone {
				t.Errorf("%s of the commit %d: %d", c.what, k, e)
			}
		}
		// There is a commit 1, but not for all.
		for _, o := range []string{"0", "0:0,1"} {
			if is, e := c.do(d, "a", of(o), 1); is || e != api.ErrGone {
				t.Errorf("%s of the commit 1 at %s: %d", c.what, o, e)
			}
		}
	}
	if l, a := d.State("a"); told(l) != "0x 1s" || names(a) != "0 1" {
		t.Errorf("a: %s, %s", told(l), names(a))
	}
}

// P1, P2: of nil, and of a desk that no call made.
func TestNil(t *testing.T) {
	var none *desk.Desk
	for _, d := range []*desk.Desk{none, {}} {
		for _, c := range calls() {
			for _, k := range []int{-1, 0} {
				if is, e := c.do(d, "a", of("0"), k); is || e != api.ErrNil {
					t.Errorf("%s: %d", c.what, e)
				}
			}
		}
		for _, name := range []string{"a", "-", ""} {
			if e := d.Ingest(name, nil); e != api.ErrNil {
				t.Errorf("Ingest(%s): %d", name, e)
			}
			if l, a := d.State(name); len(l) != 0 || len(a) != 0 {
				t.Errorf("State(%s): %v, %v", name, l, a)
			}
		}
		if l := d.Names(label.Top()); len(l) != 0 {
			t.Errorf("Names: %v", l)
		}
		if f := d.Fork(); f != nil && len(f.Names(label.Top())) > 0 {
			t.Errorf("Fork: %v", f)
		}
	}
	if none.Fork() != nil {
		t.Error("a Fork of nil")
	}
}

// The examples of the whole, as far as they are those of a desk.
func TestExamples(t *testing.T) {
	d := with(t, plain(), "x\n@@ begin 1\ns\n@@ end\ny\n")
	if cat(t, d, "0", 0) != "x\ny\n" || cat(t, d, "1", 0) != "x\ns\ny\n" {
		t.Error("the first: ", cat(t, d, "0", 0), cat(t, d, "1", 0))
	}
	d = with(t, plain(), "x\n@@ begin 1\ns\n@@ end\n@@ anchor\ny\n")
	if cat(t, d, "0", 0) != "x\n##\ny\n" {
		t.Error("the second: ", cat(t, d, "0", 0))
	}
	land(t, d, "1", 0, "x\nS\n##\ny\n", 1)
	if l, e := d.Log("a", of("0")); e != api.OK || names(l) != "0" {
		t.Errorf("the third: %s, %d", names(l), e)
	}
	land(t, d, "0", 0, "x\n##\nY\n", 1)
	if l, e := d.Log("a", of("1")); e != api.OK || names(l) != "0 1 0" || cat(t, d, "1", 2) != "x\nS\n##\nY\n" {
		t.Errorf("the fourth: %s, %d, %s", names(l), e, cat(t, d, "1", 2))
	}
	clash := refuse(t, d, "1", 0, "@@ -2,1 +2,1 @@\n-s\n+T\n", api.ErrClash)
	if got := string(text.Join(clash)); got != "x\n<<<<<<< mine\nT\n||||||| base\ns\n=======\nS\n>>>>>>> theirs\n##\nY\n" {
		t.Errorf("the fifth: %s", got)
	}
	refuse(t, d, "1", 2, "@@ -1,1 +0,0 @@\n-x\n", api.ErrRight)
	if b, e := d.Diff("a", of("1"), 0, 2, 0); string(b) != "@@ -2,1 +2,1 @@\n-s\n+S\n@@ -4,1 +4,1 @@\n-y\n+Y\n" || e != api.OK {
		t.Errorf("the eighth: %s, %d", b, e)
	}
	land(t, d, "0", 1, "x\nz\n##\nY\n", 2)
	if l, _ := d.State("a"); told(l) != "0x 0z 1S 0@ 0Y" {
		t.Errorf("the seventh: %s", told(l))
	}
}

// The chapter's example.
func TestExample(t *testing.T) {
	d := with(t, plain(), "x\n")
	patch := "@@ -1,1 +1,2 @@\n x\n+y\n"
	if n, e := d.Submit("a", of("0"), 0, []byte(patch)); n != 1 || e != api.OK {
		t.Errorf("Submit: %d, %d", n, e)
	}
	if b, e := d.Diff("a", of("0"), 0, 1, 3); string(b) != patch || e != api.OK {
		t.Errorf("Diff: %s, %d", b, e)
	}
}

// busy is a desk whose file a has commits of several labels.
func busy(t *testing.T) *desk.Desk {
	t.Helper()
	d := with(t, plain(), "x\n@@ begin 1\ns\n@@ anchor\n@@ begin 2\nh\n@@ end\n@@ end\ny\n@@ bare\n@@ begin 1:1\nc\n@@ bare\n@@ end\n")
	land(t, d, "1", 0, "x\nS\n##\ny", 1)
	land(t, d, "2", 1, "x\nS\n##\nh\ni\ny", 2)
	land(t, d, "0", 0, "w\nx\ny", 1)
	land(t, d, "1:1", 2, "w\nx\nS\n##\ny\nc\nd\n", 3)
	return d
}

// P24.2: what one sees of a file and its commits, by numbers of one's own.
func TestSights(t *testing.T) {
	d := busy(t)
	if l, a := d.State("a"); told(l) != "0w 0x 1S 1@ 2h 2i 0y 1:1c 1:1d" || names(a) != "0 1 2 0 1:1" {
		t.Fatalf("%s, %s", told(l), names(a))
	}
	for _, c := range []struct {
		o, log string
		cats   []string
		labels []string
		rank   string
		export string
	}{
		{"0", "0 0", []string{"x\ny", "w\nx\ny"}, []string{"0 0", "0 0 0"}, "1 1000\n0 800\n", "w\nx\ny\n@@ bare\n"},
		{"1", "0 1 0", []string{"x\ns\n##\ny", "x\nS\n##\ny", "w\nx\nS\n##\ny"}, []string{"0 1 1 0", "0 1 1 0", "0 0 1 1 0"}, "2 1000\n1 888\n0 666\n", "w\nx\n@@ begin 1\nS\n@@ anchor\n@@ end\ny\n@@ bare\n"},
		{"2", "0 1 2 0", []string{"x\ns\n##\nh\ny", "x\nS\n##\nh\ny", "x\nS\n##\nh\ni\ny", "w\nx\nS\n##\nh\ni\ny"}, []string{"0 1 1 2 0", "0 1 1 2 0", "0 1 1 2 2 0", "0 0 1 1 2 2 0"}, "3 1000\n2 923\n1 833\n0 666\n", "w\nx\n@@ begin 1\nS\n@@ anchor\n@@ begin 2\nh\ni\n@@ end\n@@ end\ny\n@@ bare\n"},
		{"0:1", "0 0", []string{"x\ny", "w\nx\ny"}, []string{"0 0", "0 0 0"}, "1 1000\n0 800\n", "w\nx\ny\n@@ bare\n"},
		{"1:1", "0 1 0 1:1", []string{"x\ns\n##\ny\nc", "x\nS\n##\ny\nc", "w\nx\nS\n##\ny\nc", "w\nx\nS\n##\ny\nc\nd\n"}, []string{"0 1 1 0 1:1", "0 1 1 0 1:1", "0 0 1 1 0 1:1", "0 0 1 1 0 1:1 1:1"}, "3 1000\n2 769\n1 666\n0 500\n", "w\nx\n@@ begin 1\nS\n@@ anchor\n@@ end\ny\n@@ bare\n@@ begin 1:1\nc\nd\n@@ end\n"},
	} {
		o := of(c.o)
		if l, e := d.Log("a", o); names(l) != c.log || e != api.OK {
			t.Errorf("Log at %s: %s, %d", c.o, names(l), e)
		}
		for k, want := range c.cats {
			if got := cat(t, d, c.o, k); got != want {
				t.Errorf("Cat at %s of %d: %q", c.o, k, got)
			}
			if l, e := d.Labels("a", o, k); names(l) != c.labels[k] || e != api.OK {
				t.Errorf("Labels at %s of %d: %s, %d", c.o, k, names(l), e)
			}
		}
		if b, e := d.Rank("a", o); string(b) != c.rank || e != api.OK {
			t.Errorf("Rank at %s: %s, %d", c.o, b, e)
		}
		if b, e := d.Export("a", o); string(b) != c.export || e != api.OK {
			t.Errorf("Export at %s: %s, %d", c.o, b, e)
		}
	}
}

// P24.2: a file's floor is that of its marks, too; a file without lines.
func TestFloors(t *testing.T) {
	d := begin(t, plain())
	ingest(t, d, "top/cx", "x\n@@ begin 3:0\ny\n@@ anchor\n@@ end\n")
	if b, e := d.Export("top/cx", of("2:0")); string(b) != "x\n" || e != api.OK {
		t.Errorf("at the floor: %s, %d", b, e)
	}
	if b, e := d.Export("top/cx", of("3:0,1")); string(b) != "x\n@@ begin 3:0\ny\n@@ anchor\n@@ end\n" || e != api.OK {
		t.Errorf("above: %s, %d", b, e)
	}
	if l, e := d.Log("top/cx", of("2:0")); names(l) != "2:0" || e != api.OK {
		t.Errorf("Log: %s, %d", names(l), e)
	}
	ingest(t, d, "a", "")
	if b, e := d.Export("a", of("0")); len(b) != 0 || e != api.OK {
		t.Errorf("nothing: %s, %d", b, e)
	}
	if b, e := d.Rank("a", of("0")); string(b) != "0 -\n" || e != api.OK {
		t.Errorf("nothing: %s, %d", b, e)
	}
	land(t, d, "1", 0, "x\n", 1)
	if b, e := d.Rank("a", of("1")); string(b) != "1 1000\n0 0\n" || e != api.OK {
		t.Errorf("nothing, and x: %s, %d", b, e)
	}
}

// P24.3: Diff between any two commits, with up to as many lines around as the policy has.
func TestDiff(t *testing.T) {
	d := busy(t)
	bare := "\\ No newline at end of file\n"
	for _, c := range []struct {
		o       string
		a, b, n int
		want    string
	}{
		{"0", 0, 1, 0, "@@ -0,0 +1,1 @@\n+w\n"},
		{"0", 1, 0, 0, "@@ -1,1 +0,0 @@\n-w\n"},
		{"0", 0, 1, 1, "@@ -1,1 +1,2 @@\n+w\n x\n"},
		{"0", 0, 1, 3, "@@ -1,2 +1,3 @@\n+w\n x\n y\n" + bare},
		{"0", 1, 1, 3, ""},
		{"1", 0, 2, 0, "@@ -0,0 +1,1 @@\n+w\n@@ -2,1 +3,1 @@\n-s\n+S\n"},
		{"1", 0, 2, 1, "@@ -1,3 +1,4 @@\n+w\n x\n-s\n+S\n ##\n"},
		{"1:1", 2, 3, 0, "@@ -6,1 +6,2 @@\n-c\n" + bare + "+c\n+d\n"},
	} {
		if b, e := d.Diff("a", of(c.o), c.a, c.b, c.n); string(b) != c.want || e != api.OK {
			t.Errorf("Diff at %s of %d and %d, %d: %s, %d", c.o, c.a, c.b, c.n, b, e)
		}
	}
	for _, c := range []struct {
		a, b, n int
		want    api.Errno
	}{
		{0, 1, 4, api.ErrArg},
		{0, 1, -1, api.ErrArg},
		{0, 0, math.MaxInt, api.ErrArg},
		{0, 0, math.MinInt, api.ErrArg},
		{0, 2, 4, api.ErrGone},
		{2, 0, -1, api.ErrGone},
		{-1, 0, 0, api.ErrGone},
	} {
		if b, e := d.Diff("a", of("0"), c.a, c.b, c.n); len(b) > 0 || e != c.want {
			t.Errorf("Diff of %d and %d, %d: %s, %d", c.a, c.b, c.n, b, e)
		}
	}
}

// P24.3: the greatest context is the policy's, also where that is none.
func TestContext(t *testing.T) {
	for _, n := range []int{0, 1, api.MaxContext} {
		p := plain()
		p.Context = n
		d := with(t, p, "x\n")
		if _, e := d.Diff("a", of("0"), 0, 0, n); e != api.OK {
			t.Errorf("%d of %d: %d", n, n, e)
		}
		if _, e := d.Diff("a", of("0"), 0, 0, n+1); e != api.ErrArg {
			t.Errorf("%d of %d: %d", n+1, n, e)
		}
	}
}

// full is a text of n lines, all unlike, of so many bytes each, which begin with a sign.
func full(n, bytes int, sign string) string {
	s := ""
	for i := range n {
		line := sign + strconv.Itoa(i)
		s += line + strings.Repeat(".", bytes-1-len(line)) + "\n"
	}
	return s
}

// P24.2 to P24.4: more lines than a text may have.
func TestManyLines(t *testing.T) {
	d := with(t, wide(), full(399, 5, "a"))
	one := "@@ -0,0 +1,1 @@\n+x\n"
	// Both are of the commit 0, each at one of its ends.
	send(t, d, "1", 0, one, 1)
	send(t, d, "2", 0, "@@ -399,0 +400,1 @@\n+z\n", 2)
	if l, e := d.Cat("a", of("2"), 2); len(l) != 401 || e != api.OK {
		t.Errorf("Cat: %d, %d", len(l), e)
	}
	if l, e := d.Labels("a", of("2"), 2); len(l) != 401 || e != api.OK {
		t.Errorf("Labels: %d, %d", len(l), e)
	}
	if b, e := d.Diff("a", of("2"), 0, 1, 3); len(b) == 0 || e != api.OK {
		t.Errorf("Diff: %s, %d", b, e)
	}
	for _, pair := range [][2]int{{0, 2}, {2, 0}, {2, 2}} {
		if b, e := d.Diff("a", of("2"), pair[0], pair[1], 3); len(b) > 0 || e != api.ErrLimit {
			t.Errorf("Diff of %v: %s, %d", pair, b, e)
		}
	}
	if b, e := d.Diff("a", of("2"), 0, 2, 21); len(b) > 0 || e != api.ErrArg {
		t.Errorf("Diff with too wide a context: %s, %d", b, e)
	}
	if b, e := d.Export("a", of("2")); len(b) > 0 || e != api.ErrLimit {
		t.Errorf("Export: %d bytes, %d", len(b), e)
	}
	if b, e := d.Export("a", of("1")); len(b) == 0 || e != api.OK {
		t.Errorf("Export: %d bytes, %d", len(b), e)
	}
	if b, e := d.Rank("a", of("2")); string(b) != "0 -\n1 -\n2 -\n" || e != api.OK {
		t.Errorf("Rank: %s, %d", b, e)
	}
	refuse(t, d, "2", 2, one, api.ErrLimit)                                                // of what is too long
	refuse(t, d, "2", 2, "@@ -1,1 +0,0 @@\n-x\n", api.ErrLimit)                            // also where lines are taken out
	refuse(t, d, "2", 0, one, api.ErrLimit)                                                // into what is too long
	refuse(t, d, "2", 1, "@@ -1,1 +0,0 @@\n-x\n", api.ErrRight)                            // what is named first counts
	refuse(t, d, "1", 1, one, api.ErrLimit)                                                // what the patch makes is too long
	refuse(t, d, "1", 1, "@@ -1,1 +1,1 @@\n-y\n+x\n", api.ErrApply)                        // what the patch makes is not
	refuse(t, d, "1", 1, "@@ -2,1 +2,2 @@\n-a0..\n+x\n+y\n", api.ErrLimit)                 // ahead of ErrRight
	refuse(t, d, "2", 2, "@@ -1,1 +1,1 @@\n-y\n+x\n", api.ErrLimit)                        // ahead of ErrApply
	refuse(t, d, "2", 2, "@@ -1,1 +1,1 @@\n-y\n", api.ErrForm)                             // but not of ErrForm
	refuse(t, d, "2", 0, "@@ -0,0 +1,2 @@\n+x\n+y\n", api.ErrLimit)                        // too long, by the patch
	refuse(t, d, "0", 0, "@@ -399,1 +399,1 @@\n-a397\n+x\n", api.ErrApply)                 // another line
	refuse(t, d, "0", 0, "@@ -400,1 +400,1 @@\n-a399\n+x\n", api.ErrApply)                 // behind all
	refuse(t, d, "0", 0, strings.Repeat("@", api.MaxPatch+1), api.ErrForm)                 // too long a patch is of no form
	refuse(t, d, "0", 0, full(200, 180, "+"), api.ErrForm)                                 // and so is this
	refuse(t, d, "0", 9, full(200, 180, "+"), api.ErrGone)                                 // which commit it is of counts first
	refuse(t, d, "0", 0, "@@ -0,0 +1,1 @@\n+"+full(1, 202, "x"), api.ErrForm)              // a line too long, too
	refuse(t, d, "0", 0, "@@ -1,1 +1,1 @@\n-a0..\n+x", api.ErrForm)                        // without a byte 10
	refuse(t, d, "0", 0, "@@ -1,1 +1,1 @@\n a0..\n@@ -9,1 +8,1 @@\n-x\n+y\n", api.ErrForm) // a hunk that changes nothing
}

// P24.2, P24.3: more bytes than a file, or a patch, may have.
func TestManyBytes(t *testing.T) {
	a, b := full(150, 200, "a"), full(150, 200, "b")
	d := with(t, wide(), a)
	half := len(a) / 2
	land(t, d, "0", 0, b[:half]+a[half:], 1)
	land(t, d, "0", 1, b, 2)
	if p, e := d.Diff("a", of("0"), 0, 1, 0); len(p) < len(a) || e != api.OK {
		t.Errorf("half: %d bytes, %d", len(p), e)
	}
	if p, e := d.Diff("a", of("0"), 0, 2, 0); len(p) > 0 || e != api.ErrLimit {
		t.Errorf("both: %d bytes, %d", len(p), e)
	}
	if p, e := d.Diff("a", of("0"), 0, 2, 21); len(p) > 0 || e != api.ErrArg {
		t.Errorf("both, with too wide a context: %d, %d", len(p), e)
	}
	more := full(50, 200, "c")
	land(t, d, "0", 2, b+more, 3)
	if p, e := d.Export("a", of("0")); len(p) > 0 || e != api.ErrLimit {
		t.Errorf("Export: %d bytes, %d", len(p), e)
	}
	land(t, d, "0", 3, more, 4)
	if p, e := d.Export("a", of("0")); string(p) != more || e != api.OK {
		t.Errorf("Export: %s, %d", p, e)
	}
}
