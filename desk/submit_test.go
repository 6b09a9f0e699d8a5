package desk_test

import (
	"slices"
	"strconv"
	"strings"
	"testing"

	"jalousie/api"
	"jalousie/desk"
	"jalousie/text"
)

// change is a submit: at a label, of one's own commit, with the text that one makes of it.
type change struct {
	o    string
	k    int
	made string
}

// newlines has them where / stands, which is shorter in a table.
func newlines(s string) string {
	return strings.ReplaceAll(s, "/", "\n")
}

// P24.4: where lines stand that were put in, and which ones stay; of a file, two submits one behind the other, and all items then.
func TestSubmit(t *testing.T) {
	for _, c := range []struct {
		marked        string
		first, second change
		want          string
	}{
		// The second is of what the first made.
		{"x/y/", change{"0", 0, "x/z/y/"}, change{"0", 1, "x/z/w/y/"}, "0x 0z 0w 0y"},
		{"x/y/", change{"0", 0, "y/"}, change{"0", 1, ""}, ""},
		{"", change{"0", 0, "x/"}, change{"1", 1, "x/s/"}, "0x 1s"},
		// Both are of the same: what one alone has changed is as it has it.
		{"x/y/z/", change{"0", 0, "X/y/z/"}, change{"0", 0, "x/y/Z/"}, "0X 0y 0Z"},
		{"x/y/z/", change{"0", 0, "x/z/"}, change{"0", 0, "x/y/z/w/"}, "0x 0z 0w"},
		{"x/y/z/", change{"0", 0, "x/z/"}, change{"0", 0, "w/x/y/z/"}, "0w 0x 0z"},
		{"x/y/z/", change{"1", 0, "x/s/y/z/"}, change{"0", 0, "x/y/Z/"}, "0x 1s 0y 0Z"},
		{"x/y/z/", change{"1", 0, "x/s/y/z/"}, change{"2", 0, "x/y/t/z/"}, "0x 1s 0y 2t 0z"},
		// What both have changed alike is there once.
		{"x/y/z/", change{"0", 0, "x/Y/z/"}, change{"0", 0, "x/Y/z/"}, "0x 0Y 0z"},
		{"x/y/z/", change{"0", 0, "x/z/"}, change{"0", 0, "x/z/"}, "0x 0z"},
		{"x/y/z/", change{"0", 0, "x/w/y/z/"}, change{"1", 0, "x/w/y/z/"}, "0x 0w 0y 0z"},
		// One does not see it: it is there twice.
		{"x/y/z/", change{"1", 0, "x/w/y/z/"}, change{"0", 0, "x/w/y/z/"}, "0x 0w 1w 0y 0z"},
		// Hidden lines stay where they stand; what is put in stands just behind the line ahead.
		{"x/@@ begin 1/s/t/@@ end/y/", change{"0", 0, "x/z/y/"}, change{"0", 1, "x/y/"}, "0x 1s 1t 0y"},
		{"x/@@ begin 1/s/t/@@ end/y/", change{"0", 0, "x/Y/"}, change{"1", 1, "x/Y/s/"}, "0x 0Y 1s"},
		{"@@ begin 1/s/@@ end/x/@@ begin 1/t/@@ end/", change{"0", 0, ""}, change{"0", 1, "y/"}, "0y 1s 1t"},
		{"@@ begin 1/s/@@ end/x/@@ begin 1/t/@@ end/", change{"0", 0, "y/x/"}, change{"0", 1, "y/x/z/"}, "0y 1s 0x 0z 1t"},
		{"x/@@ begin 1/s/@@ anchor/@@ end/@@ anchor/y/", change{"1", 0, "x/##/##/y/"}, change{"0", 0, "x/##/w/y/"}, "0x 1@ 0@ 0w 0y"},
		{"x/@@ begin 1/s/@@ anchor/@@ end/@@ anchor/y/", change{"0", 0, "x/w/##/y/"}, change{"1", 1, "x/w/s/v/##/u/##/y/"}, "0x 0w 1s 1v 1@ 1u 0@ 0y"},
		// A line that looks like an anchor is a line.
		{"x/@@ anchor/y/", change{"0", 0, "##/x/##/##/y/"}, change{"0", 1, "x/##/##/y/"}, "0x 0@ 0## 0y"},
		// A category's.
		{"x/@@ begin 0:0/s/@@ end/@@ begin 0:1/t/@@ end/y/", change{"0:0", 0, "x/S/y/"}, change{"0:1", 0, "x/t/u/y/"}, "0x 0:0S 0:1t 0:1u 0y"},
		// What went comes again, and what was put in on both sides of a line.
		{"x/", change{"0", 0, ""}, change{"0", 1, "x/"}, "0x"},
		{"x/", change{"0", 0, "w/x/"}, change{"0", 0, "x/y/"}, "0w 0x 0y"},
	} {
		d := with(t, wide(), newlines(c.marked))
		for _, one := range []change{c.first, c.second} {
			patch := edit(t, d, one.o, one.k, newlines(one.made))
			lines, e := d.Preview("a", of(one.o), one.k, patch)
			if e != api.OK {
				t.Errorf("%s, %v: Preview %d", c.marked, one, e)
			}
			n, e := d.Submit("a", of(one.o), one.k, patch)
			if e != api.OK {
				t.Errorf("%s, %v: %d", c.marked, one, e)
				continue
			}
			if got := cat(t, d, one.o, n); got != string(text.Join(lines)) {
				t.Errorf("%s, %v: %q, not %q", c.marked, one, got, text.Join(lines))
			}
		}
		if l, _ := d.State("a"); told(l) != c.want {
			t.Errorf("%s, %v, %v: %s", c.marked, c.first, c.second, told(l))
		}
	}
}

// ids is the items' IDs.
func ids(l []api.Item) []int {
	var all []int
	for _, one := range l {
		all = append(all, one.ID)
	}
	return all
}

// P24.4: which items are the same, and which are new.
func TestNewItems(t *testing.T) {
	d := with(t, wide(), "x\n@@ begin 1\ns\n@@ end\ny\n")
	check := func(want string, numbers ...int) {
		t.Helper()
		if l, _ := d.State("a"); told(l) != want || !slices.Equal(ids(l), numbers) {
			t.Fatalf("%s, %v, not %s, %v", told(l), ids(l), want, numbers)
		}
	}
	check("0x 1s 0y", 1, 2, 3)
	send(t, d, "0", 0, "@@ -1,1 +1,3 @@\n x\n+z\n+w\n", 1)
	check("0x 0z 0w 1s 0y", 1, 4, 5, 2, 3)
	// A line that is taken out, and put in again at once, is still the head's.
	send(t, d, "0", 1, "@@ -1,2 +1,2 @@\n-x\n-z\n+x\n+z\n", 2)
	check("0x 0z 0w 1s 0y", 1, 4, 5, 2, 3)
	// Put in again later, it is another one; the ID of what went is never there again.
	send(t, d, "0", 2, "@@ -1,2 +0,0 @@\n-x\n-z\n", 3)
	check("0w 1s 0y", 5, 2, 3)
	send(t, d, "0", 3, "@@ -0,0 +1,2 @@\n+x\n+z\n", 4)
	check("0x 0z 0w 1s 0y", 6, 7, 5, 2, 3)
	// What stays in a patch of the commit 1 is new, where it is no line of the head's; what is changed alike is the head's.
	send(t, d, "0", 1, "@@ -2,1 +2,2 @@\n z\n+v\n", 5)
	check("0x 0z 0v 0w 1s 0y", 8, 9, 10, 5, 2, 3)
	send(t, d, "0", 4, "@@ -2,1 +2,2 @@\n z\n+v\n", 6)
	check("0x 0z 0v 0w 1s 0y", 8, 9, 10, 5, 2, 3)
	send(t, d, "1", 6, "@@ -4,1 +4,2 @@\n w\n+r\n", 7)
	check("0x 0z 0v 0w 1r 1s 0y", 8, 9, 10, 5, 11, 2, 3)
	send(t, d, "1", 7, "@@ -5,1 +4,0 @@\n-r\n", 8)
	send(t, d, "1", 8, "@@ -5,1 +5,2 @@\n s\n+r\n", 9)
	check("0x 0z 0v 0w 1s 1r 0y", 8, 9, 10, 5, 2, 12, 3)
}

// P24.4: a commit of one's own label, by one's own number of it; also of a patch that changes nothing.
func TestNumbers(t *testing.T) {
	p := wide()
	p.Commits = 4
	d := with(t, p, "x\n")
	for i, c := range []struct {
		o    string
		k, n int
		log  string
	}{
		{"0", 0, 1, "0 0"},
		{"1", 1, 2, "0 0 1"},
		{"0", 0, 2, "0 0 0"},
		{"2:0", 0, 4, "0 0 1 0 2:0"},
		{"0:1", 2, 3, "0 0 0 0:1"},
		{"1", 3, 4, "0 0 1 0 1"},
		{"3:0,1", 6, 7, "0 0 1 0 2:0 0:1 1 3:0,1"},
		{"0", 2, 3, "0 0 0 0"},
		{"15", 5, 6, "0 0 1 0 1 0 15"}, // A label that is right, but none of the policy's.
	} {
		patch := "" // It changes nothing.
		if i%2 == 0 {
			patch = "@@ -0,0 +1,1 @@\n+" + strconv.Itoa(i) + "\n"
			if c.k == 0 && c.n > 1 {
				patch = "@@ -1,0 +2,1 @@\n+" + strconv.Itoa(i) + "\n"
			}
		}
		send(t, d, c.o, c.k, patch, c.n)
		if l, e := d.Log("a", of(c.o)); names(l) != c.log || e != api.OK {
			t.Errorf("Log at %s: %s, %d", c.o, names(l), e)
		}
	}
}

// P24.4: ErrForm, ErrApply and ErrRight, of a patch; what is named first counts.
func TestWrongPatches(t *testing.T) {
	d := busy(t) // at 1: w x S ## y
	for _, c := range []struct {
		o     string
		k     int
		patch string
		want  api.Errno
	}{
		{"1", 3, "x", api.ErrGone},
		{"1", 2, "x", api.ErrForm},
		{"1", 2, "@@ -3,1 +3,1 @@\n-S\n", api.ErrForm},
		{"1", 2, "@@ -3,1 +3,1 @@\n-S\n+T", api.ErrForm},
		{"1", 2, "@@ -3 +3 @@\n-S\n+T\n", api.ErrForm},
		{"1", 2, "@@ -3,1 +4,1 @@\n-S\n+T\n", api.ErrForm},
		{"1", 2, "@@ -3,1 +3,1 @@\n S\n", api.ErrForm},
		{"1", 2, strings.Repeat("x", api.MaxPatch+1), api.ErrForm},
		{"1", 2, "@@ -3,1 +3,1 @@\n-S\n+" + strings.Repeat("x", api.MaxText+1) + "\n", api.ErrForm},
		{"1", 2, "@@ -3,1 +3,1 @@\n-s\n+T\n", api.ErrApply},
		{"1", 2, "@@ -6,1 +6,1 @@\n-S\n+T\n", api.ErrApply},
		{"1", 2, "@@ -5,1 +5,2 @@\n y\n+z\n", api.ErrApply}, // y ends without a newline
		{"1", 2, "@@ -5,1 +5,2 @@\n y\n\\ No newline at end of file\n+z\n", api.ErrApply},
		{"1", 2, "@@ -3,1 +3,2 @@\n S\n+T\n\\ No newline at end of file\n", api.ErrApply},
		{"1", 2, "@@ -1,1 +0,0 @@\n-x\n", api.ErrApply},         // another line, and not one's own
		{"1", 2, "@@ -1,1 +0,0 @@\n-w\n", api.ErrRight},         // a label below
		{"1", 2, "@@ -4,1 +3,0 @@\n-##\n", api.ErrRight},        // an anchor
		{"1", 2, "@@ -4,1 +4,1 @@\n-##\n+##\n", api.ErrRight},   // an anchor, for a line that looks like it
		{"1", 2, "@@ -3,2 +2,0 @@\n-S\n-##\n", api.ErrRight},    // both
		{"1:1", 3, "@@ -3,1 +2,0 @@\n-S\n", api.ErrRight},       // a label below
		{"2", 3, "@@ -3,1 +2,0 @@\n-S\n", api.ErrRight},         // a label below
		{"2", 3, "@@ -3,1 +3,1 @@\n-S\n+S\n", api.ErrRight},     // though nothing is another one
		{"1", 0, "@@ -1,1 +1,1 @@\n-x\n+X\n", api.ErrRight},     // of an elder commit
		{"1", 0, "@@ -1,2 +1,1 @@\n-x\n-s\n+T\n", api.ErrRight}, // ahead of ErrClash
		{"1", 0, "@@ -2,1 +2,1 @@\n-s\n+T\n", api.ErrClash},
		{"1", 0, "@@ -2,1 +1,0 @@\n-s\n", api.ErrClash},
	} {
		refuse(t, d, c.o, c.k, c.patch, c.want)
	}
}

// P24.4: what clashes, with all three texts.
func TestClash(t *testing.T) {
	mark := strings.NewReplacer("[", "<<<<<<< mine/", "(", "||||||| base/", ")", "=======/", "]", ">>>>>>> theirs/")
	for _, c := range []struct {
		base, mine, theirs, want string
	}{
		{"x/", "y/", "z/", "[y/(x/)z/]"},
		{"a/x/b/", "a/y/b/", "a/b/", "a/[y/(x/)]b/"},
		{"a/b/", "a/y/b/", "a/z/b/", "a/[y/()z/]b/"},
		{"a/b/c/d/e/", "A/b/c/D/e/", "a/B/c/d/E/", "[A/b/(a/b/)a/B/]c/[D/e/(d/e/)d/E/]"},
		{"a/b/c/", "A/b/c/", "B/b/C/", "[A/(a/)B/]b/C/"},
		{"a/b/c/", "b/C/", "b/c/d/", "b/[C/(c/)c/d/]"},
		// How they end plays a part, too; no line is Bare but the last one.
		{"a/", "b", "b/", "[b/(a/)b/]"},
		{"a/b/", "c/b", "d/b/", "[c/b/(a/b/)d/b/]"},
	} {
		d := with(t, wide(), newlines(c.base))
		mine := edit(t, d, "0", 0, newlines(c.mine))
		land(t, d, "0", 0, newlines(c.theirs), 1)
		got := string(text.Join(refuse(t, d, "0", 0, string(mine), api.ErrClash)))
		if got != newlines(mark.Replace(c.want)) {
			t.Errorf("%s, %s, %s: %s", c.base, c.mine, c.theirs, got)
		}
	}
}

// P24.4: ErrRight of what came in between: a line that one does not own would be another one.
func TestRightInBetween(t *testing.T) {
	d := with(t, wide(), "x\n")
	// The line x is another one then, with the same text.
	send(t, d, "0", 0, "@@ -1,1 +0,0 @@\n-x\n", 1)
	send(t, d, "0", 1, "@@ -0,0 +1,1 @@\n+x\n", 2)
	patch := "@@ -1,1 +1,2 @@\n x\n+y\n"
	refuse(t, d, "1", 0, patch, api.ErrRight)
	send(t, d, "0", 0, patch, 3)
	if l, _ := d.State("a"); told(l) != "0x 0y" || !slices.Equal(ids(l), []int{3, 4}) {
		t.Errorf("%s, %v", told(l), ids(l))
	}
	send(t, d, "1", 3, "@@ -1,1 +1,2 @@\n x\n+s\n", 4)
}

// quota is a desk of a policy of so many lines and commits.
func quota(t *testing.T, lines, commits int, marked string) *desk.Desk {
	t.Helper()
	p := plain()
	p.Lines, p.Commits = lines, commits
	return with(t, p, marked)
}

// P24.4: as many lines of one's label as may be.
func TestLinesQuota(t *testing.T) {
	d := quota(t, 3, 64, "x\n@@ begin 1\ns\nt\n@@ anchor\n@@ end\n@@ anchor\ny\n")
	send(t, d, "0", 0, "@@ -0,0 +1,1 @@\n+w\n", 1)
	refuse(t, d, "0", 1, "@@ -0,0 +1,1 @@\n+v\n", api.ErrQuota)
	// What came in between counts.
	refuse(t, d, "0", 0, "@@ -3,0 +4,1 @@\n+v\n", api.ErrQuota)
	// One goes, and one comes.
	send(t, d, "0", 1, "@@ -1,1 +1,1 @@\n-w\n+v\n", 2)
	// Lines of others play no part, nor do anchors.
	send(t, d, "1", 2, "@@ -0,0 +1,1 @@\n+r\n", 3)
	refuse(t, d, "1", 3, "@@ -0,0 +1,1 @@\n+q\n", api.ErrQuota)
	send(t, d, "0", 2, "@@ -1,1 +0,0 @@\n-v\n", 3)
	refuse(t, d, "1", 4, "@@ -0,0 +1,1 @@\n+q\n", api.ErrQuota)
	send(t, d, "0", 3, "@@ -3,1 +3,2 @@\n y\n+z\n", 4)
	send(t, d, "2", 0, "@@ -4,0 +5,3 @@\n+1\n+2\n+3\n", 6)
	// ErrClash counts first.
	refuse(t, d, "0", 0, "@@ -3,0 +4,4 @@\n+1\n+2\n+3\n+4\n", api.ErrClash)
	refuse(t, d, "0", 4, "@@ -4,0 +5,4 @@\n+1\n+2\n+3\n+4\n", api.ErrQuota)
}

// P24.4: as many commits of one's label as may be, the commit 0 not counted.
func TestCommitsQuota(t *testing.T) {
	d := quota(t, 9, 2, "x\n")
	send(t, d, "0", 0, "", 1)
	send(t, d, "1", 0, "", 2)
	send(t, d, "0", 0, "", 2)
	refuse(t, d, "0", 0, "", api.ErrQuota)
	refuse(t, d, "0", 2, "@@ -1,1 +0,0 @@\n-x\n", api.ErrQuota)
	refuse(t, d, "0", 3, "", api.ErrGone)
	refuse(t, d, "0", 0, "@@ -1,1 +0,0 @@\n-y\n", api.ErrApply)
	refuse(t, d, "1", 0, "@@ -1,1 +0,0 @@\n-x\n", api.ErrRight)
	send(t, d, "1", 2, "@@ -0,0 +1,1 @@\n+s\n", 4)
	refuse(t, d, "1", 4, "", api.ErrQuota)
	refuse(t, d, "1", 0, "@@ -0,0 +1,1 @@\n+t\n", api.ErrClash)
	send(t, d, "0:0", 0, "", 3)
	send(t, d, "1:0", 0, "", 6)
	d = quota(t, 9, 0, "x\n@@ begin 1\ns\n@@ end\n")
	for _, o := range []string{"0", "1", "0:0"} {
		refuse(t, d, o, 0, "", api.ErrQuota)
	}
	// As many as there may ever be.
	d = quota(t, 9, api.MaxCommits, "x\n")
	for n := range api.MaxCommits {
		send(t, d, "0", n, "", n+1)
	}
	refuse(t, d, "0", 0, "", api.ErrQuota)
	send(t, d, "1", 0, "", api.MaxCommits+1)
}

// P24.4: lines that end without a newline.
func TestBare(t *testing.T) {
	bare := "\\ No newline at end of file\n"
	d := with(t, wide(), "x\ny")
	send(t, d, "0", 0, "@@ -2,1 +2,2 @@\n-y\n"+bare+"+y\n+z\n"+bare, 1)
	if got := cat(t, d, "0", 1); got != "x\ny\nz" {
		t.Errorf("%q", got)
	}
	// Behind z stands a hidden line: at 1 z ends with a newline.
	send(t, d, "1", 1, "@@ -1,1 +1,2 @@\n x\n+s\n", 2)
	d = with(t, wide(), "x\n@@ bare\n@@ begin 1\ns\n@@ end\n")
	if cat(t, d, "0", 0) != "x" || cat(t, d, "1", 0) != "x\ns\n" {
		t.Errorf("%q, %q", cat(t, d, "0", 0), cat(t, d, "1", 0))
	}
	patch := "@@ -2,1 +1,0 @@\n-s\n"
	if l, e := d.Preview("a", of("1"), 0, []byte(patch)); string(text.Join(l)) != "x\n" || e != api.OK {
		t.Errorf("%q, %d", text.Join(l), e)
	}
	send(t, d, "1", 0, patch, 1)
	if l, e := d.Cat("a", of("1"), 1); !slices.Equal(l, []api.Line{{Text: "x", Bare: true}}) || e != api.OK {
		t.Errorf("%v, %d", l, e)
	}
	// A line without a newline that is put in ahead of hidden ones.
	d = with(t, wide(), "x\n@@ begin 1\ns\n@@ end\n")
	send(t, d, "0", 0, "@@ -1,1 +1,2 @@\n x\n+y\n"+bare, 1)
	if cat(t, d, "0", 1) != "x\ny" || cat(t, d, "1", 1) != "x\ny\ns\n" {
		t.Errorf("%q, %q", cat(t, d, "0", 1), cat(t, d, "1", 1))
	}
	if l, _ := d.State("a"); !l[1].Line.Bare || l[0].Line.Bare || l[2].Line.Bare {
		t.Errorf("%v", l)
	}
}

// P4, P24.2: of a desk and its Fork, what becomes of the one changes nothing of the other one.
func TestFork(t *testing.T) {
	d := busy(t)
	ingest(t, d, "b", "1\n")
	f := d.Fork()
	for _, one := range []string{"a", "b", "c"} {
		was, are := d.State(one)
		if l, a := f.State(one); !slices.Equal(l, was) || !slices.Equal(a, are) {
			t.Fatalf("%s: %v, %v", one, l, a)
		}
	}
	ingest(t, f, "c", "of the fork\n")
	ingest(t, d, "c", "of the desk\n")
	ingest(t, f, "d", "")
	send(t, f, "0", 1, "@@ -1,1 +1,1 @@\n-w\n+of the fork\n", 2)
	send(t, d, "0", 1, "@@ -1,1 +1,1 @@\n-w\n+of the desk\n", 2)
	g := f.Fork()
	send(t, g, "1", 3, "@@ -0,0 +1,1 @@\n+of the fork's fork\n", 4)
	send(t, d, "1", 3, "", 4)
	send(t, d, "2", 5, "", 6)
	for _, c := range []struct {
		d              *desk.Desk
		files, a, c    string
		commits, ofTwo string
	}{
		{d, "a b c", "of the desk x S ## y", "of the desk", "0 1 0 0 1", "0 1 2 0 0 1 2"},
		{f, "a b c d", "of the fork x S ## y", "of the fork", "0 1 0 0", "0 1 2 0 0"},
		{g, "a b c d", "of the fork's fork of the fork x S ## y", "of the fork", "0 1 0 0 1", "0 1 2 0 0 1"},
	} {
		if got := strings.Join(c.d.Names(of("3")), " "); got != c.files {
			t.Errorf("files %s, not %s", got, c.files)
		}
		l, _ := c.d.Log("a", of("1"))
		two, _ := c.d.Log("a", of("2"))
		if names(l) != c.commits || names(two) != c.ofTwo {
			t.Errorf("commits %s and %s, not %s and %s", names(l), names(two), c.commits, c.ofTwo)
		}
		if got := strings.ReplaceAll(cat(t, c.d, "1", len(l)-1), "\n", " "); got != c.a {
			t.Errorf("a is %s, not %s", got, c.a)
		}
		if l, _ := c.d.State("c"); len(l) != 1 || l[0].Line.Text != c.c {
			t.Errorf("c is %v", l)
		}
	}
}

// spoil writes over all of a list, spare room too.
func spoil[E any](l []E, with E) {
	l = l[:cap(l)]
	for i := range l {
		l[i] = with
	}
}

// P3, P6: what is handed in stays as it is, spare room too, and is not kept; what is answered is new.
func TestNothingIsShared(t *testing.T) {
	p := plain()
	p.Floors = append(make([]api.Floor, 0, 9), p.Floors...)
	p.Users = append(make([]api.User, 0, 9), api.User{Name: "ann"})
	d := begin(t, p)
	was := []byte("x\n@@ begin 1\ns\n@@ anchor\n@@ end\ny\n")
	b := slices.Clone(was)
	if e := d.Ingest("a", b[:20]); e != api.ErrForm || !slices.Equal(b, was) {
		t.Fatalf("%d, %q", e, b)
	}
	if e := d.Ingest("a", b); e != api.OK || !slices.Equal(b, was) {
		t.Fatalf("%d, %q", e, b)
	}
	patch := []byte("@@ -2,1 +2,2 @@\n-s\n+S\n+T\n")
	given := slices.Clone(patch)
	if l, e := d.Preview("a", of("1"), 0, given); e != api.OK || !slices.Equal(given, patch) {
		t.Fatalf("%v, %d, %q", l, e, given)
	}
	if n, e := d.Submit("a", of("1"), 0, given); n != 1 || e != api.OK || !slices.Equal(given, patch) {
		t.Fatalf("%d, %d, %q", n, e, given)
	}
	spoil(p.Floors, api.Floor{Prefix: "a", Label: of("3")})
	spoil(p.Users, api.User{})
	spoil(b, 'z')
	spoil(given, 'z')
	o := of("1")
	ask := func() (names []string, l []api.Label, lines []api.Line, labels []api.Label, diff, export, rank []byte, items []api.Item, all []api.Label, seen, clash []api.Line) {
		names = d.Names(o)
		l, _ = d.Log("a", o)
		lines, _ = d.Cat("a", o, 1)
		labels, _ = d.Labels("a", o, 1)
		diff, _ = d.Diff("a", o, 0, 1, 1)
		export, _ = d.Export("a", o)
		rank, _ = d.Rank("a", o)
		items, all = d.State("a")
		seen, _ = d.Preview("a", o, 1, []byte("@@ -2,1 +2,1 @@\n-S\n+R\n"))
		clash, _ = d.Preview("a", o, 0, []byte("@@ -2,1 +2,1 @@\n-s\n+R\n"))
		return
	}
	for range 3 {
		n, l, lines, labels, diff, export, rank, items, all, seen, clash := ask()
		if strings.Join(n, " ") != "a" || names(l) != "0 1" || string(text.Join(lines)) != "x\nS\nT\n##\ny\n" || names(labels) != "0 1 1 1 0" {
			t.Fatalf("%v, %v, %v, %v", n, l, lines, labels)
		}
		if string(diff) != "@@ -1,3 +1,4 @@\n x\n-s\n+S\n+T\n ##\n" || string(export) != "x\n@@ begin 1\nS\nT\n@@ anchor\n@@ end\ny\n" || string(rank) != "1 1000\n0 666\n" {
			t.Fatalf("%s, %s, %s", diff, export, rank)
		}
		if told(items) != "0x 1S 1T 1@ 0y" || names(all) != "0 1" || string(text.Join(seen)) != "x\nR\nT\n##\ny\n" || len(clash) != 11 {
			t.Fatalf("%v, %v, %v, %v", items, all, seen, clash)
		}
		spoil(n, "z")
		spoil(l, of("3"))
		spoil(lines, api.Line{Text: "z"})
		spoil(labels, of("3"))
		spoil(diff, 'z')
		spoil(export, 'z')
		spoil(rank, 'z')
		spoil(items, api.Item{ID: 9})
		spoil(all, of("3"))
		spoil(seen, api.Line{Text: "z"})
		spoil(clash, api.Line{Text: "z"})
	}
	ingest(t, d, "ab", "x\n")
	if l, _ := d.State("ab"); told(l) != "0x" {
		t.Errorf("the policy was kept as it lay: %v", l)
	}
}
