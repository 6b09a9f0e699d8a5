package gate_test

import (
	"reflect"
	"slices"
	"strconv"
	"strings"
	"testing"

	"jalousie/api"
	"jalousie/audit"
	"jalousie/desk"
	"jalousie/gate"
	"jalousie/label"
)

// of is a label by its text.
func of(s string) api.Label {
	a, is := label.Parse(s)
	if !is {
		panic("no label: " + s)
	}
	return a
}

// with is a policy of this quota of the log.
func with(log int) string {
	return "levels 3\ncats 2\nlines 4\ncommits 3\nlog " + strconv.Itoa(log) + "\ncontext 2\nhidden ##\n" +
		"user root 2:0,1 admin\nuser low 0 admin\nuser ann 1\nuser bob 0\nuser cat 1:0\nfloor key 1\nfloor key/top 2:0\n"
}

// begin is a gate of that policy.
func begin(t *testing.T, log int) *gate.Gate {
	t.Helper()
	g := gate.New([]byte(with(log)))
	if !g.Open() {
		t.Fatal("not open")
	}
	return g
}

// row is who asks for what, and what is answered.
type row struct{ user, ask, want string }

// talk has a gate answer each.
func talk(t *testing.T, g *gate.Gate, rows ...row) {
	t.Helper()
	for _, c := range rows {
		if got := string(g.Do(c.user, []byte(c.ask))); got != c.want {
			t.Fatalf("%s %q: %q, not %q", c.user, c.ask, got, c.want)
		}
	}
}

// noted is what stands in a gate's log.
func noted(g *gate.Gate) string {
	return string(g.Log().Print(label.Top()))
}

// stored is all files of a gate, with all their items and commits.
func stored(g *gate.Gate) map[string][]any {
	d := g.Desk()
	all := map[string][]any{}
	for _, name := range d.Names(label.Top()) {
		items, labels := d.State(name)
		all[name] = []any{items, labels}
	}
	return all
}

// wrongPolicies is bytes that are no policy.
func wrongPolicies() []string {
	return []string{"", "levels 0\n", "nonsense\n", with(0), with(201), with(9) + "levels 3\n", with(9) + "user dan 3\n", with(9) + strings.Repeat("#", api.MaxPolicy)}
}

// asks is requests of all kinds, and bytes that are none.
func asks() []string {
	return []string{"list 0\n", "log 0 a\n", "cat 0 a 0\n", "labels 0 a 0\n", "diff 0 a 0 0 0\n", "preview 0 a 0\n", "submit 0 a 0\n", "audit 0\n", "ingest 0 a\n", "export 0 a\n", "rank 0 a\n", "", "x", "list 0"}
}

// P25.1, P25.2: a gate of bytes that are no policy, and nil.
func TestClosed(t *testing.T) {
	check := func(g *gate.Gate, want string) {
		t.Helper()
		for range 2 {
			if g.Open() || g.Desk() != nil || g.Log() != nil {
				t.Fatal("open")
			}
			for _, user := range []string{"root", "ann", ""} {
				for _, ask := range asks() {
					if a := g.Label(user, []byte(ask)); a != (api.Label{}) {
						t.Fatalf("%s %q: %v", user, ask, a)
					}
					talk(t, g, row{user, ask, want})
				}
			}
		}
	}
	for _, p := range wrongPolicies() {
		g := gate.New([]byte(p))
		if g == nil || g.Fork() == nil {
			t.Fatalf("%q: nil", p)
		}
		check(g, "no-policy\n")
		check(g.Fork(), "no-policy\n")
	}
	var none *gate.Gate
	check(none, "nothing\n")
	if none.Fork() != nil {
		t.Error("a Fork of nil")
	}
}

// P25.1: a gate of a policy.
func TestOpen(t *testing.T) {
	for _, p := range []string{with(1), with(200), "# a remark\n\n" + with(9)} {
		g := gate.New([]byte(p))
		if !g.Open() || g.Desk() == nil || g.Log() == nil || g.Fork() == nil {
			t.Fatalf("%q: not open", p)
		}
		if n := g.Log().Len(); n != 0 || len(stored(g)) != 0 {
			t.Errorf("%q: %d entries, files %v", p, n, stored(g))
		}
	}
}

// P25.1, P25.5: the effective label.
func TestLabel(t *testing.T) {
	g := begin(t, 9)
	for _, c := range []struct{ user, ask, want string }{
		{"ann", "list 0\n", "0"},
		{"ann", "list 1\n", "1"},
		{"ann", "list 2\n", "1"},
		{"ann", "list 0:0\n", "1"},
		{"ann", "list 15:0,63\n", "1"},
		{"ann", "list 0", "1"},
		{"ann", "list 0 \n", "1"},
		{"ann", "list 0\nx", "1"},
		{"ann", "", "1"},
		{"ann", "\n", "1"},
		{"ann", "cat 0 - 0\n", "1"},
		{"ann", "cat 0 zzz 9\n", "0"},
		{"ann", "ingest 0 a\n", "0"}, // It is denied, but not its label.
		{"ann", "export 1 a\n", "1"},
		{"ann", "export 2 a\n", "1"},
		{"ann", "ingest 0 a\n" + strings.Repeat("x", api.MaxFile), "0"},
		{"ann", "ingest 0 a\n" + strings.Repeat("x", api.MaxFile+1), "1"},
		{"cat", "list 0\n", "0"},
		{"cat", "list 1\n", "1"},
		{"cat", "list 0:0\n", "0:0"},
		{"cat", "list 1:0\n", "1:0"},
		{"cat", "list 1:1\n", "1:0"},
		{"cat", "list 1:0,1\n", "1:0"},
		{"root", "list 2:0,1\n", "2:0,1"},
		{"root", "list 2:1\n", "2:1"},
		{"root", "list 3\n", "2:0,1"},
		{"root", "nonsense\n", "2:0,1"},
		{"low", "list 0\n", "0"},
		{"low", "list 1\n", "0"},
		{"eve", "list 0\n", "0"}, // Nobody's.
		{"eve", "list 2\n", "0"},
		{"eve", "nonsense\n", "0"},
		{"", "list 1\n", "0"},
		{"Ann", "list 1\n", "0"},
	} {
		if got := g.Label(c.user, []byte(c.ask)); got != of(c.want) {
			t.Errorf("%s %.20q: %s, not %s", c.user, c.ask, label.Print(got), c.want)
		}
	}
	if noted(g) != "" {
		t.Errorf("Label is noted: %s", noted(g))
	}
}

// P25.2, P25.3: where the document tells it.
func TestExample(t *testing.T) {
	talk(t, begin(t, 9),
		row{"ann", "list 0\n", "ok\n"},
		row{"ann", "audit 0\n", "ok\n1 ann 0 list - ok\n"},
		row{"ann", "audit 0\n", "ok\n1 ann 0 list - ok\n2 ann 0 audit - ok\n"})
}

// marked is a file of x (0), s (1), an anchor (1), t (2:0), y (0).
const marked = "x\n@@ begin 1\ns\n@@ anchor\n@@ begin 2:0\nt\n@@ end\n@@ end\ny\n"

// P25.2: what each verb tells, and what each refuses.
func TestVerbs(t *testing.T) {
	g := begin(t, 200)
	talk(t, g,
		row{"root", "list 2:0,1\n", "ok\n"},
		row{"root", "ingest 0 b\n", "ok\n"},
		row{"root", "ingest 2:0,1 a\n" + marked, "ok\n"},
		row{"root", "ingest 2:0,1 a\nother\n", "exists\n"},
		row{"root", "ingest 0 c\n@@ end\n", "malformed\n"},
		row{"root", "ingest 0 c\n@@ begin 3\n@@ end\n", "bad-label\n"},
		row{"root", "ingest 0 c\n1\n2\n3\n4\n5\n", "quota\n"},
		row{"root", "ingest 0 c\n" + strings.Repeat("x", api.MaxText+1) + "\n", "too-long\n"},
		row{"root", "ingest 1 key/a\nk\n", "ok\n"},
		row{"low", "ingest 0 d\n@@ begin 2\nd\n@@ end\n", "ok\n"},
		row{"root", "list 2:0\n", "ok\na\nb\nd\nkey/a\n"},
		row{"bob", "list 0\n", "ok\na\nb\nd\n"},
		row{"bob", "log 0 a\n", "ok\n0 0\n"},
		row{"bob", "log 0 key/a\n", "not-found\n"},
		row{"ann", "log 1 key/a\n", "ok\n0 1\n"},
		row{"bob", "cat 0 a 0\n", "ok\nx\ny\n"},
		row{"bob", "cat 0 b 0\n", "ok\n"},
		row{"bob", "cat 0 d 0\n", "ok\n"},
		row{"bob", "cat 0 a 1\n", "not-found\n"},
		row{"ann", "cat 1 a 0\n", "ok\nx\ns\n##\ny\n"},
		row{"ann", "labels 1 a 0\n", "ok\n0\n1\n1\n0\n"},
		row{"ann", "labels 1 a 1\n", "not-found\n"},
		row{"root", "labels 2:0 a 0\n", "ok\n0\n1\n1\n2:0\n0\n"},
		row{"ann", "preview 1 a 0\n@@ -2,1 +2,1 @@\n-s\n+S\n", "ok\nx\nS\n##\ny\n"},
		row{"ann", "submit 1 a 0\n@@ -2,1 +2,1 @@\n-s\n+S\n", "ok\n1\n"},
		row{"bob", "submit 0 a 0\n@@ -1,1 +1,2 @@\n x\n+z", "malformed\n"},
		row{"bob", "submit 0 a 0\n@@ -1,1 +1,2 @@\n x\n+z\n", "ok\n1\n"},
		row{"ann", "log 1 a\n", "ok\n0 0\n1 1\n2 0\n"},
		row{"bob", "log 0 a\n", "ok\n0 0\n1 0\n"},
		row{"ann", "preview 1 a 0\n@@ -2,1 +2,1 @@\n-s\n+T\n", "conflict\nx\n<<<<<<< mine\nT\n||||||| base\ns\n=======\nz\nS\n>>>>>>> theirs\n##\ny\n"},
		row{"ann", "submit 1 a 0\n@@ -2,1 +2,1 @@\n-s\n+T\n", "conflict\n"},
		row{"ann", "preview 1 a 0\n@@ -2,1 +2,1 @@\n-S\n+T\n", "misapplied\n"},
		row{"ann", "submit 1 a 2\n@@ -1,1 +0,0 @@\n-x\n", "forbidden\n"},
		row{"ann", "preview 1 a 2\n@@ -1,1 +0,0 @@\n-x\n", "forbidden\n"},
		row{"bob", "submit 0 a 1\n@@ -3,1 +3,3 @@\n y\n+1\n+2\n", "quota\n"},
		row{"ann", "diff 1 a 0 2 0\n", "ok\n@@ -2,1 +2,2 @@\n-s\n+z\n+S\n"},
		row{"ann", "diff 1 a 1 2 1\n", "ok\n@@ -1,2 +1,3 @@\n x\n+z\n S\n"},
		row{"ann", "diff 1 a 2 2 2\n", "ok\n"},
		row{"ann", "diff 1 a 0 2 3\n", "too-much\n"},
		row{"ann", "diff 1 a 0 3 3\n", "not-found\n"},
		row{"root", "export 0 a\n", "ok\nx\nz\ny\n"},
		row{"root", "export 2:0,1 a\n", "ok\nx\nz\n@@ begin 1\nS\n@@ anchor\n@@ begin 2:0\nt\n@@ end\n@@ end\ny\n"},
		row{"low", "export 0 a\n", "ok\nx\nz\ny\n"},
		row{"low", "export 0 key/a\n", "not-found\n"},
		row{"root", "export 0 key/a\n", "not-found\n"},
		row{"bob", "rank 0 a\n", "ok\n1 1000\n0 800\n"},
		row{"bob", "rank 0 zzz\n", "not-found\n"})
}

// P25.2: an Ingest of a file that one would not see says that alone, whatever else is wrong with it.
func TestIngestAbove(t *testing.T) {
	g := begin(t, 200)
	talk(t, g, row{"root", "ingest 1 key/a\nk\n", "ok\n"})
	was := stored(g)
	for _, c := range [][2]string{{"0", "key/a"}, {"0", "key/b"}, {"0:0,1", "key"}, {"1", "key/top"}, {"2:1", "key/top"}, {"1:0,1", "key/topmost"}} {
		for _, body := range []string{"k\n", "@@ end\n", "1\n2\n3\n4\n5\n", "@@ begin 9\n@@ end\n"} {
			talk(t, g, row{"root", "ingest " + c[0] + " " + c[1] + "\n" + body, "not-found\n"})
		}
	}
	if now := stored(g); !reflect.DeepEqual(now, was) {
		t.Errorf("%v became %v", was, now)
	}
	talk(t, g,
		row{"low", "ingest 0 key/b\nk\n", "not-found\n"},
		row{"root", "ingest 2:0 key/top\nk\n", "ok\n"},
		row{"root", "ingest 1 key/a\nk\n", "exists\n"},
		row{"low", "ingest 0 ke\nk\n", "ok\n"})
}

// P25.2: what is denied; no user may do so, and which label they name plays no part.
func TestDenied(t *testing.T) {
	g := begin(t, 200)
	talk(t, g, row{"root", "ingest 0 a\nx\n", "ok\n"})
	was := stored(g)
	for _, user := range []string{"eve", "", "Root", "root ", "-", strings.Repeat("r", 65)} {
		for _, ask := range asks()[:11] {
			talk(t, g, row{user, ask, "denied\n"})
		}
	}
	for _, user := range []string{"ann", "bob", "cat"} {
		for _, ask := range asks()[:11] {
			above := strings.Replace(ask, " 0", " 2", 1)
			talk(t, g, row{user, above, "denied\n"}, row{user, strings.Replace(ask, " 0", " 0:1", 1), "denied\n"})
		}
		talk(t, g,
			row{user, "ingest 0 a\n", "denied\n"},
			row{user, "ingest 0 b\nx\n", "denied\n"},
			row{user, "export 0 a\n", "denied\n"},
			row{user, "export 0 zzz\n", "denied\n"},
			row{user, "cat 0 a 0\n", "ok\nx\n"})
	}
	talk(t, g,
		row{"low", "export 1 a\n", "denied\n"},
		row{"low", "ingest 1 b\n", "denied\n"},
		row{"root", "list 3\n", "denied\n"},
		row{"root", "list 2:0,1,2\n", "denied\n"},
		row{"root", "ingest 3 b\n", "denied\n"})
	if now := stored(g); !reflect.DeepEqual(now, was) {
		t.Errorf("%v became %v", was, now)
	}
}

// P25.2: the first of all that is wrong counts.
func TestOrder(t *testing.T) {
	g := begin(t, 3)
	talk(t, g,
		row{"eve", "nonsense\n", "malformed\n"}, // ErrForm is ahead of ErrDenied,
		row{"bob", "ingest 2 -\n", "malformed\n"},
		row{"bob", "ingest 2 a\n" + strings.Repeat("x", api.MaxFile+1), "too-long\n"}, // ErrLimit, too;
		row{"eve", "nonsense\n", "audit-full\n"},                                      // ErrFull is ahead of both,
		row{"eve", "list 2\n", "audit-full\n"},
		row{"bob", "list 0\n", "audit-full\n"},
		row{"bob", "list 1\n", "audit-full\n"},
		row{"bob", "cat 0 zzz 0\n", "audit-full\n"},
		row{"ann", "list 0\n", "audit-full\n"}, // of the label that counts,
		row{"ann", "cat 2 zzz 0\n", "denied\n"},
		row{"ann", "list 1\n", "ok\n"},
		row{"cat", "list 0\n", "audit-full\n"},
		row{"cat", "ingest 1:0 zzz\n@@ end\n", "denied\n"}, // and ErrDenied ahead of the desk's.
		row{"low", "cat 1 zzz 0\n", "denied\n"},
		row{"low", "cat 0 zzz 0\n", "not-found\n"}) // An admin's log is never full.
}

// P25.2, P25.3: how many entries a label may have, by whomever they are; an admin may more.
func TestFull(t *testing.T) {
	g := begin(t, 2)
	talk(t, g,
		row{"bob", "list 0\n", "ok\n"},
		row{"root", "list 0\n", "ok\n"},
		row{"bob", "list 0\n", "audit-full\n"},
		row{"root", "list 0\n", "ok\n"},
		row{"low", "list 1\n", "denied\n"},
		row{"bob", "list 0\n", "audit-full\n"},
		row{"ann", "list 1\n", "ok\n"},
		row{"cat", "list 1\n", "ok\n"},
		row{"ann", "audit 1\n", "audit-full\n"},
		row{"cat", "audit 1:0\n", "ok\n1 bob 0 list - ok\n2 root 0 list - ok\n3 root 0 list - ok\n4 low 0 list - denied\n5 ann 1 list - ok\n6 cat 1 list - ok\n"},
		row{"root", "audit 0\n", "ok\n1 bob 0 list - ok\n2 root 0 list - ok\n3 root 0 list - ok\n4 low 0 list - denied\n"},
		row{"cat", "audit 1:1\n", "denied\n"},
		row{"cat", "audit 1:0\n", "audit-full\n"},
		row{"cat", "audit 0:0\n", "ok\n1 bob 0 list - ok\n2 root 0 list - ok\n3 root 0 list - ok\n4 low 0 list - denied\n5 root 0 audit - ok\n"})
	for _, a := range []struct {
		o string
		n int
	}{{"0", 5}, {"1", 2}, {"1:0", 2}, {"0:0", 1}, {"2", 0}} {
		if n := g.Log().Of(of(a.o)); n != a.n {
			t.Errorf("%d entries of %s, not %d", n, a.o, a.n)
		}
	}
	many := begin(t, 200)
	for range 200 {
		talk(t, many, row{"bob", "list 0\n", "ok\n"})
	}
	talk(t, many, row{"bob", "list 0\n", "audit-full\n"}, row{"ann", "list 1\n", "ok\n"})
}

// P25.3: what is noted of each request.
func TestEntries(t *testing.T) {
	long := strings.Repeat("n", api.MaxName)
	for _, c := range []struct{ user, ask, want string }{
		{"ann", "list 1\n", "ann 1 list - ok"},
		{"ann", "log 0 zzz\n", "ann 0 log zzz not-found"},
		{"ann", "cat 0 a 0\n", "ann 0 cat a ok"},
		{"ann", "labels 0 a 7\n", "ann 0 labels a not-found"},
		{"ann", "diff 0 a 0 0 9\n", "ann 0 diff a too-much"},
		{"ann", "preview 0 a 0\nx", "ann 0 preview a malformed"},
		{"ann", "submit 0 a 0\n@@ -1,1 +0,0 @@\n-y\n", "ann 0 submit a misapplied"},
		{"ann", "submit 1 a 0\n@@ -1,1 +0,0 @@\n-x\n", "ann 1 submit a forbidden"},
		{"ann", "submit 0 a 0\n", "ann 0 submit a ok"},
		{"ann", "audit 0\n", "ann 0 audit - ok"},
		{"ann", "rank 0 a\n", "ann 0 rank a ok"},
		{"root", "ingest 0 a\n", "root 0 ingest a exists"},
		{"root", "ingest 0 b\n@@ begin 7\n", "root 0 ingest b bad-label"},
		{"root", "ingest 0 b\n1\n2\n3\n4\n5\n", "root 0 ingest b quota"},
		{"root", "ingest 0 " + long + "\n", "root 0 ingest " + long + " ok"},
		{"root", "ingest 0 " + long + "n\n", "root 2:0,1 - - malformed"},
		{"root", "ingest 0 -\n", "root 2:0,1 - - malformed"},
		{"root", "ingest 0 key\n", "root 0 ingest key not-found"},
		{"root", "ingest 2:1 key\n", "root 2:1 ingest key ok"},
		{"root", "export 2 a\n", "root 2 export a ok"},
		{"ann", "export 0 a\n", "ann 0 export a denied"},
		{"ann", "export 2 a\n", "ann 1 export a denied"},
		{"ann", "ingest 0 key\nx\n", "ann 0 ingest key denied"},
		{"ann", "cat 1:0 secret 0\n", "ann 1 cat secret denied"},
		{"ann", "cat 1 a 0", "ann 1 - - malformed"},
		{"ann", "cat 1 a 01\n", "ann 1 - - malformed"},
		{"ann", "", "ann 1 - - malformed"},
		{"ann", "submit 0 a 0\n" + strings.Repeat("x", api.MaxFile+1), "ann 1 - - too-long"},
		{"eve", "cat 0 a 0\n", "eve 0 cat a denied"},
		{"eve", "cat 2 a 0\n", "eve 0 cat a denied"},
		{"eve", "cat 0 a\n", "eve 0 - - malformed"},
		{"", "list 0\n", "- 0 list - denied"},
		{"-", "list 0\n", "- 0 list - denied"},
		{"ann ", "list 0\n", "- 0 list - denied"},
		{"a\nb", "nonsense", "- 0 - - malformed"},
		{"\xff", "list 1\n", "- 0 list - denied"},
		{long, "list 0\n", long + " 0 list - denied"},
		{long + "n", "list 0\n", "- 0 list - denied"},
	} {
		g := begin(t, 9)
		talk(t, g, row{"root", "ingest 0 a\nx\n", "ok\n"})
		answer := string(g.Do(c.user, []byte(c.ask)))
		code, _, _ := strings.Cut(answer, "\n")
		if !strings.HasSuffix(c.want, " "+code) {
			t.Errorf("%s %.20q: %q", c.user, c.ask, answer)
		}
		if got := noted(g); got != "1 root 0 ingest a ok\n2 "+c.want+"\n" {
			t.Errorf("%s %.20q: %s", c.user, c.ask, got)
		}
	}
}

// P25.5: an Audit tells what one reads, and numbers that alone.
func TestAudit(t *testing.T) {
	g := begin(t, 9)
	talk(t, g,
		row{"ann", "list 1\n", "ok\n"},
		row{"cat", "list 0:0\n", "ok\n"},
		row{"bob", "list 0\n", "ok\n"},
		row{"cat", "list 1:0\n", "ok\n"},
		row{"bob", "list 1\n", "denied\n"},
		row{"bob", "audit 0\n", "ok\n1 bob 0 list - ok\n2 bob 0 list - denied\n"},
		row{"ann", "audit 1\n", "ok\n1 ann 1 list - ok\n2 bob 0 list - ok\n3 bob 0 list - denied\n4 bob 0 audit - ok\n"},
		row{"ann", "audit 0\n", "ok\n1 bob 0 list - ok\n2 bob 0 list - denied\n3 bob 0 audit - ok\n"},
		row{"cat", "audit 0:0\n", "ok\n1 cat 0:0 list - ok\n2 bob 0 list - ok\n3 bob 0 list - denied\n4 bob 0 audit - ok\n5 ann 0 audit - ok\n"},
		row{"root", "audit 2:1\n", "ok\n1 ann 1 list - ok\n2 bob 0 list - ok\n3 bob 0 list - denied\n4 bob 0 audit - ok\n5 ann 1 audit - ok\n6 ann 0 audit - ok\n"})
}

// P4, P25.1: of a gate, its Fork, its Desk and its Log, what becomes of the one changes nothing of the others.
func TestFork(t *testing.T) {
	g := begin(t, 9)
	talk(t, g, row{"root", "ingest 0 a\nx\n", "ok\n"})
	f, d, l := g.Fork(), g.Desk(), g.Log()
	if noted(f) != noted(g) || !reflect.DeepEqual(stored(f), stored(g)) || !f.Open() {
		t.Fatalf("%s, %v", noted(f), stored(f))
	}
	talk(t, f, row{"bob", "submit 0 a 0\n@@ -1,1 +1,2 @@\n x\n+f\n", "ok\n1\n"}, row{"root", "ingest 0 f\n", "ok\n"})
	if e := d.Ingest("d", nil); e != api.OK {
		t.Fatal(e)
	}
	if n, e := d.Submit("a", of("0"), 0, []byte("@@ -1,1 +1,2 @@\n x\n+d\n")); n != 1 || e != api.OK {
		t.Fatal(n, e)
	}
	if e := l.Add(api.Entry{User: "l", Verb: "l", File: "l", Outcome: "l"}); e != api.OK {
		t.Fatal(e)
	}
	talk(t, g, row{"bob", "submit 0 a 0\n@@ -1,1 +1,2 @@\n x\n+g\n", "ok\n1\n"}, row{"bob", "cat 0 a 1\n", "ok\nx\ng\n"}, row{"bob", "list 0\n", "ok\na\n"})
	talk(t, f.Fork(), row{"bob", "submit 0 a 1\n", "ok\n2\n"}, row{"bob", "list 0\n", "ok\na\nf\n"})
	talk(t, f, row{"bob", "cat 0 a 1\n", "ok\nx\nf\n"}, row{"bob", "log 0 a\n", "ok\n0 0\n1 0\n"}, row{"bob", "list 0\n", "ok\na\nf\n"})
	checkDesk(t, d, "x d", "a d")
	checkLog(t, l, "1 root 0 ingest a ok\n2 l 0 l l l\n")
	checkLog(t, g.Log(), "1 root 0 ingest a ok\n2 bob 0 submit a ok\n3 bob 0 cat a ok\n4 bob 0 list - ok\n")
	checkLog(t, f.Log(), "1 root 0 ingest a ok\n2 bob 0 submit a ok\n3 root 0 ingest f ok\n4 bob 0 cat a ok\n5 bob 0 log a ok\n6 bob 0 list - ok\n")
}

// checkDesk: is that what stands in a, and are these all files?
func checkDesk(t *testing.T, d *desk.Desk, a, files string) {
	t.Helper()
	var words []string
	items, _ := d.State("a")
	for _, one := range items {
		words = append(words, one.Line.Text)
	}
	if got := strings.Join(words, " "); got != a || strings.Join(d.Names(label.Top()), " ") != files {
		t.Errorf("%s, %v", got, d.Names(label.Top()))
	}
}

func checkLog(t *testing.T, l *audit.Log, want string) {
	t.Helper()
	if got := string(l.Print(label.Top())); got != want {
		t.Errorf("%s, not %s", got, want)
	}
}

// spoil writes over all of a list, spare room too.
func spoil[E any](l []E, with E) {
	l = l[:cap(l)]
	for i := range l {
		l[i] = with
	}
}

// P3: what is handed in stays as it is, spare room too, and is not kept; what is answered is new.
func TestNothingIsShared(t *testing.T) {
	p := append(make([]byte, 0, 2000), with(100)...)
	spare := slices.Clone(p[:cap(p)])
	g := gate.New(p)
	if !slices.Equal(p[:cap(p)], spare) {
		t.Fatal("the policy was changed")
	}
	spoil(p, 'z')
	for _, c := range []row{
		{"root", "ingest 2:0,1 a\n" + marked, "ok\n"},
		{"root", "ingest 1 key/a\nk\n", "ok\n"},
		{"ann", "submit 1 a 0\n@@ -2,1 +2,1 @@\n-s\n+S\n", "ok\n1\n"},
	} {
		b := append(make([]byte, 0, 200), c.ask...)
		if a := g.Label(c.user, b[:len(c.ask)]); a == (api.Label{}) || string(b) != c.ask {
			t.Fatalf("%v, %q", a, b)
		}
		got := g.Do(c.user, b)
		if string(got) != c.want || string(b) != c.ask || slices.Max(b[len(b):cap(b)]) != 0 {
			t.Fatalf("%q, %q", got, b[:cap(b)])
		}
		spoil(got, 'z')
		spoil(b, 'z')
	}
	for range 2 {
		for _, c := range []row{
			{"ann", "list 1\n", "ok\na\nkey/a\n"},
			{"ann", "log 1 a\n", "ok\n0 0\n1 1\n"},
			{"ann", "cat 1 a 1\n", "ok\nx\nS\n##\ny\n"},
			{"ann", "labels 1 a 0\n", "ok\n0\n1\n1\n0\n"},
			{"ann", "diff 1 a 0 1 0\n", "ok\n@@ -2,1 +2,1 @@\n-s\n+S\n"},
			{"ann", "preview 1 a 1\n@@ -2,1 +1,0 @@\n-S\n", "ok\nx\n##\ny\n"},
			{"ann", "preview 1 a 0\n@@ -2,1 +1,0 @@\n-s\n", "conflict\nx\n<<<<<<< mine\n||||||| base\ns\n=======\nS\n>>>>>>> theirs\n##\ny\n"},
			{"root", "export 1 a\n", "ok\nx\n@@ begin 1\nS\n@@ anchor\n@@ end\ny\n"},
			{"ann", "rank 1 a\n", "ok\n1 1000\n0 750\n"},
		} {
			got := g.Do(c.user, []byte(c.ask))
			if string(got) != c.want {
				t.Fatalf("%s %q: %q", c.user, c.ask, got)
			}
			spoil(got, 'z')
		}
	}
	first := g.Do("cat", []byte("audit 1:0\n"))
	want := strings.Clone(string(first))
	spoil(first, 'z')
	if again := string(g.Do("cat", []byte("audit 1:0\n"))); again != want+"21 cat 1:0 audit - ok\n" {
		t.Errorf("%q, %q", want, again)
	}
}
