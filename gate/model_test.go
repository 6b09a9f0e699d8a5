package gate_test

import (
	"bytes"
	"fmt"
	"maps"
	"math/rand"
	"reflect"
	"slices"
	"strings"
	"testing"

	"jalousie/api"
	"jalousie/desk"
	"jalousie/hunk"
	"jalousie/item"
	"jalousie/label"
	"jalousie/policy"
	"jalousie/script"
	"jalousie/text"
	"jalousie/unified"
	"jalousie/view"
	"jalousie/wire"
)

// model is a gate, told by itself: a desk, and of each entry its label and its words.
type model struct {
	policy api.Policy
	desk   *desk.Desk
	labels []api.Label
	words  []string
}

// sent is a request, and what was answered; effective is its label.
type sent struct {
	user      string
	ask       []byte
	effective api.Label
	answer    string
}

func (m *model) user(name string) (api.User, bool) {
	for _, u := range m.policy.Users {
		if u.Name == name {
			return u, true
		}
	}
	return api.User{}, false
}

// below is label.Below, told by itself.
func below(a, b api.Label) bool {
	return a.Level <= b.Level && a.Cats|b.Cats == b.Cats
}

// effective is P25.1, of Label.
func (m *model) effective(name string, b []byte) api.Label {
	u, _ := m.user(name)
	if r, e := wire.Parse(b); e == api.OK && below(r.Label, u.Clear) {
		return r.Label // Of one who is no user, what lies below the bottom is the bottom.
	}
	return u.Clear
}

// count is how many entries have just that label.
func (m *model) count(a api.Label) int {
	n := 0
	for _, one := range m.labels {
		if one == a {
			n++
		}
	}
	return n
}

// audit is what the log tells at a label.
func (m *model) audit(o api.Label) string {
	s, n := "", 0
	for i, a := range m.labels {
		if below(a, o) {
			n++
			s += fmt.Sprintf("%d %s\n", n, m.words[i])
		}
	}
	return s
}

// expect is P25.2 and P25.3: what is answered.
func (m *model) expect(name string, b []byte) string {
	u, is := m.user(name)
	a := m.effective(name, b)
	if m.count(a) >= m.policy.Log && !u.Admin {
		return "audit-full\n"
	}
	if !text.Name(name) {
		name = "-"
	}
	verb, file := "-", "-"
	r, e := wire.Parse(b)
	body := ""
	if e == api.OK {
		verb = strings.Fields(string(b))[0]
		if r.File != "" {
			file = r.File
		}
		e = api.ErrDenied
		if is && below(r.Label, u.Clear) && (u.Admin || verb != "ingest" && verb != "export") {
			body, e = m.serve(verb, r)
		}
	}
	m.labels = append(m.labels, a)
	m.words = append(m.words, strings.Join([]string{name, label.Print(a), verb, file, wire.Code(e)}, " "))
	return wire.Code(e) + "\n" + body
}

// serve is what each verb tells.
func (m *model) serve(verb string, r api.Request) (string, api.Errno) {
	s := ""
	switch verb {
	case "list":
		for _, name := range m.desk.Names(r.Label) {
			s += name + "\n"
		}
		return s, api.OK
	case "log", "labels":
		ask := func() ([]api.Label, api.Errno) { return m.desk.Labels(r.File, r.Label, r.A) }
		if verb == "log" {
			ask = func() ([]api.Label, api.Errno) { return m.desk.Log(r.File, r.Label) }
		}
		l, e := ask()
		for i, a := range l {
			if verb == "log" {
				s += fmt.Sprintf("%d ", i)
			}
			s += label.Print(a) + "\n"
		}
		return s, e
	case "audit":
		return m.audit(r.Label), api.OK
	case "submit":
		n, e := m.desk.Submit(r.File, r.Label, r.A, r.Body)
		if e == api.OK {
			s = fmt.Sprintf("%d\n", n)
		}
		return s, e
	case "ingest":
		if !below(policy.Floor(m.policy, r.File), r.Label) {
			return "", api.ErrGone
		}
		return "", m.desk.Ingest(r.File, r.Body)
	case "cat", "preview":
		l, e := m.desk.Cat(r.File, r.Label, r.A)
		if verb == "preview" {
			l, e = m.desk.Preview(r.File, r.Label, r.A, r.Body)
		}
		for _, one := range l {
			s += one.Text + "\n"
		}
		if n := len(l); n > 0 && l[n-1].Bare {
			s = s[:len(s)-1]
		}
		return s, e
	}
	ask := map[string]func() ([]byte, api.Errno){
		"diff":   func() ([]byte, api.Errno) { return m.desk.Diff(r.File, r.Label, r.A, r.B, r.C) },
		"export": func() ([]byte, api.Errno) { return m.desk.Export(r.File, r.Label) },
		"rank":   func() ([]byte, api.Errno) { return m.desk.Rank(r.File, r.Label) },
	}[verb]
	b, e := ask()
	return string(b), e
}

// source is what a script is made of: bytes, one after the other, and then zeros.
type source struct{ b []byte }

func (s *source) below(n int) int {
	if len(s.b) == 0 {
		return 0
	}
	c := s.b[0]
	s.b = s.b[1:]
	return int(c) % n
}

func (s *source) of(words ...string) string {
	return words[s.below(len(words))]
}

// observers is labels of the policy of which some lie below each other, and some do not.
func observers() []string {
	return []string{"0", "1", "0:0", "1:0", "2:1", "2:0,1"}
}

// file is a file's name; the last one has a name that is none.
func (s *source) file() string {
	return s.of("a", "a", "a", "b", "b", "key/a", "key/top", "zzz", "-")
}

// label is one that the user reads, mostly.
func (s *source) label(m *model, name string) string {
	if s.below(8) == 7 {
		return s.of("2:0,1", "2", "3", "1:1", "0:0")
	}
	u, _ := m.user(name)
	o := of(s.of(observers()...))
	return label.Print(label.Meet(o, u.Clear))
}

// marked is a file with marks: of a few lines and anchors, and seldom of another form.
func (s *source) marked(floor api.Label) string {
	var l []api.Item
	for i := range s.below(9) {
		one := api.Item{ID: i + 1, Label: label.Join(floor, of(s.of("0", "1", "0:0", "2:1"))), Anchor: s.below(4) == 3}
		if !one.Anchor {
			one.Line.Text = s.of("x", "y", "z", "")
		}
		l = append(l, one)
	}
	b, _ := item.Print(l, floor)
	return string(b) + s.of("", "", "", "", "", "", "@@ end\n", "@@ begin 2\n@@ end\n", "@@ begin 7\n@@ end\n")
}

// patch is one of what is seen, in which some lines go, and some come.
func (s *source) patch(m *model, file, o string, k int) string {
	labels, e := m.desk.Labels(file, of(o), k)
	if e != api.OK {
		return s.of("", "x", "@@ -1,1 +1,1 @@\n-x\n+y\n")
	}
	was, _ := m.desk.Cat(file, of(o), k)
	var made []api.Line
	for i, one := range was {
		if labels[i] != of(o) && s.below(9) > 0 || s.below(2) == 0 {
			made = append(made, one)
		}
		if s.below(4) == 0 {
			made = append(made, api.Line{Text: s.of("x", "y", "v", "w")})
		}
	}
	edits, _ := script.Make(was, made)
	l, _ := hunk.Build(edits, s.below(3))
	b, _ := unified.Print(l)
	return string(b)
}

// next is who asks for what.
func (s *source) next(m *model) (string, []byte) {
	user := s.of("root", "root", "ann", "ann", "ann", "bob", "bob", "cat", "cat", "low", "eve", "e ve")
	file, o := s.file(), s.label(m, user)
	if _, labels := m.desk.State(file); len(labels) == 0 && s.below(2) == 0 {
		user, o = "root", "2:0,1" // What is not there comes soon.
		return user, fmt.Appendf(nil, "ingest %s %s\n%s", o, file, s.marked(policy.Floor(m.policy, file)))
	}
	log, _ := m.desk.Log(file, of(o))
	k := max(len(log)-1-s.below(3)/2, s.below(20)/19)
	var ask string
	switch verb := s.of("list", "log", "cat", "labels", "diff", "preview", "submit", "submit", "submit", "audit", "ingest", "export", "rank"); verb {
	case "list", "audit":
		ask = fmt.Sprintf("%s %s\n", verb, o)
	case "log", "export", "rank":
		ask = fmt.Sprintf("%s %s %s\n", verb, o, file)
	case "cat", "labels":
		ask = fmt.Sprintf("%s %s %s %d\n", verb, o, file, k)
	case "diff":
		ask = fmt.Sprintf("diff %s %s %d %d %d\n", o, file, s.below(2), k, s.below(4))
	case "preview", "submit":
		base := k
		if s.below(12) == 11 { // It becomes a patch of another commit.
			base = s.below(len(log) + 1)
		}
		ask = fmt.Sprintf("%s %s %s %d\n%s", verb, o, file, k, s.patch(m, file, o, base))
	case "ingest":
		ask = fmt.Sprintf("ingest %s %s\n%s", o, file, s.marked(policy.Floor(m.policy, file)))
	}
	b := []byte(ask)
	if s.below(20) == 19 { // It becomes a request of another form.
		b[s.below(len(b))] = " \n0x"[s.below(4)]
	}
	return user, b
}

// left is what is left of a script, if only what lies below a label counts.
func left(p api.Policy, all []sent, o api.Label) []sent {
	var l []sent
	for _, one := range all {
		r, e := wire.Parse(one.ask)
		is := e == api.OK && r.Verb == api.Ingest && one.answer == "ok\n"
		floor := policy.Floor(p, r.File)
		if !below(one.effective, o) && !(is && below(floor, o)) {
			continue
		}
		if is {
			items, _, _ := item.Parse(r.Body, p, floor)
			r.Body, _ = item.Print(view.Cut(items, o), floor)
			one.ask, _ = wire.Print(r)
		}
		l = append(l, one)
	}
	return l
}

// checkBlind is P25.5: what one may not read plays no part in what one is answered.
func checkBlind(t *testing.T, p api.Policy, quota int, all []sent, o string) {
	t.Helper()
	g := begin(t, quota)
	for i, one := range left(p, all, of(o)) {
		if got := string(g.Do(one.user, one.ask)); got != one.answer {
			t.Fatalf("%d: %s %q: %q, but %q without what lies not below %s", i, one.user, one.ask, one.answer, got, o)
		}
	}
}

// runScript is a script, and all that is promised of it; told is how often each code was answered.
func runScript(t *testing.T, b []byte, told map[string]int) {
	t.Helper()
	s := &source{b}
	quota := 3 + s.below(60)
	g := begin(t, quota)
	p, _, _ := policy.Parse([]byte(with(quota)))
	d, _ := desk.New(p)
	m := &model{policy: p, desk: d}
	var all []sent
	for i := 0; len(s.b) > 0 && i < 60; i++ {
		user, ask := s.next(m)
		was := bytes.Clone(ask)
		files, other := stored(g), g.Fork()
		one := sent{user, ask, g.Label(user, ask), string(g.Do(user, ask))}
		if want := m.expect(user, ask); one.answer != want {
			t.Fatalf("%s %q: %q, not %q", user, ask, one.answer, want)
		}
		if one.effective != m.effective(user, ask) || noted(g) != m.audit(label.Top()) {
			t.Fatalf("%s %q: at %v, %s", user, ask, one.effective, noted(g))
		}
		checkStored(t, one, files, stored(g))
		if !bytes.Equal(ask, was) || noted(other) == noted(g) && one.answer != "audit-full\n" || !reflect.DeepEqual(stored(other), files) {
			t.Fatalf("%s %q became %q, or a Fork something else", user, was, ask)
		}
		// Both Forks are alike, whichever goes on.
		if i%2 == 0 {
			other.Do(user, ask)
			g = other
		}
		code, _, _ := strings.Cut(one.answer, "\n")
		told[code]++
		all = append(all, one)
	}
	for _, o := range observers() {
		checkBlind(t, p, quota, all, o)
	}
}

// checkStored is P25.4: no file is another one, unless an Ingest or a Submit is answered ok; and then one more commit is there.
func checkStored(t *testing.T, one sent, was, is map[string][]any) {
	t.Helper()
	verb, _, _ := strings.Cut(string(one.ask), " ")
	if (verb == "ingest" || verb == "submit") && strings.HasPrefix(one.answer, "ok\n") {
		if reflect.DeepEqual(was, is) {
			t.Fatalf("%q: nothing became of it", one.ask)
		}
		return
	}
	if !reflect.DeepEqual(was, is) {
		t.Fatalf("%q: %v became %v", one.ask, was, is)
	}
}

// P25.1 to P25.5: scripts of many users, at several labels.
func TestScripts(t *testing.T) {
	turn := rand.New(rand.NewSource(25))
	told := map[string]int{}
	for range 250 {
		b := make([]byte, 300+turn.Intn(1500))
		turn.Read(b)
		runScript(t, b, told)
	}
	t.Log(told)
	for _, code := range []string{"ok", "malformed", "not-found", "denied", "audit-full", "conflict", "forbidden", "misapplied", "exists", "quota", "bad-label", "too-much"} {
		if told[code] < 8 {
			t.Errorf("%s was answered %d times", code, told[code])
		}
	}
	if n := len(slices.Collect(maps.Keys(told))); n != 12 {
		t.Errorf("%d codes", n)
	}
}

// The same, of scripts of the fuzzer's own.
func FuzzScript(f *testing.F) {
	f.Add([]byte{})
	turn := rand.New(rand.NewSource(52))
	for range 5 {
		b := make([]byte, 500)
		turn.Read(b)
		f.Add(b)
	}
	f.Fuzz(func(t *testing.T, b []byte) {
		if len(b) < 3000 {
			runScript(t, b, map[string]int{})
		}
	})
}

// Requests of any bytes, by any user: one answer each, as the model has it.
func FuzzDo(f *testing.F) {
	for _, one := range asks() {
		f.Add("ann", []byte(one))
		f.Add("root", []byte(one))
	}
	f.Add("root", []byte("ingest 2:0,1 b\n"+marked))
	f.Add("ann", []byte("submit 1 a 0\n@@ -2,1 +2,1 @@\n-s\n+S\n"))
	f.Fuzz(func(t *testing.T, user string, b []byte) {
		g := begin(t, 9)
		p, _, _ := policy.Parse([]byte(with(9)))
		d, _ := desk.New(p)
		m := &model{policy: p, desk: d}
		for _, one := range []sent{{user: "root", ask: []byte("ingest 2:0,1 a\n" + marked)}, {user: user, ask: b}, {user: user, ask: b}, {user: "root", ask: []byte("audit 2:0,1\n")}} {
			want := m.expect(one.user, one.ask)
			if got := string(g.Do(one.user, one.ask)); got != want {
				t.Fatalf("%s %q: %q, not %q", one.user, one.ask, got, want)
			}
		}
	})
}
