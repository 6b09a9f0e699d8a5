package audit_test

import (
	"bytes"
	"math"
	"math/rand"
	"slices"
	"strconv"
	"strings"
	"testing"

	"jalousie/api"
	"jalousie/audit"
	"jalousie/label"
)

// of is a label by its text.
func of(s string) api.Label {
	a, is := label.Parse(s)
	if !is {
		panic("no label: " + s)
	}
	return a
}

// by is an entry of a user, at a label.
func by(user, a string) api.Entry {
	return api.Entry{User: user, Label: of(a), Verb: "cat", File: "a", Outcome: "ok"}
}

// row is entries at these labels, told with blanks between; each has a user and a file of its own.
func row(s string) []api.Entry {
	var l []api.Entry
	for i, word := range strings.Fields(s) {
		n := strconv.Itoa(i)
		l = append(l, api.Entry{User: "u" + n, Label: of(word), Verb: "v", File: "f" + n, Outcome: "o"})
	}
	return l
}

// some is labels of which some lie below each other, and some do not; the last four are none that is right.
func some() []api.Label {
	return []api.Label{
		of("0"), of("1"), of("2"), of("0:0"), of("1:1"), of("2:0,1"), label.Top(), {Level: -1}, {Level: 16, Cats: 1}, {Level: math.MinInt}, {Level: math.MaxInt, Cats: math.MaxUint64},
	}
}

// below is told by the fields, as chapter 2 has it.
func below(a, b api.Label) bool {
	return a.Level <= b.Level && a.Cats&^b.Cats == 0
}

// told is what is printed of entries.
func told(l []api.Entry) string {
	var b strings.Builder
	for i, e := range l {
		b.WriteString(strconv.Itoa(i+1) + " " + e.User + " " + label.Print(e.Label) + " " + e.Verb + " " + e.File + " " + e.Outcome + "\n")
	}
	return b.String()
}

// check is P20.1 and P20.2, of a log to which these were added.
func check(t *testing.T, l *audit.Log, all []api.Entry) {
	t.Helper()
	if l.Len() != len(all) {
		t.Fatalf("%v: %d", all, l.Len())
	}
	for _, o := range some() {
		var want []api.Entry
		n := 0
		for _, e := range all {
			if below(e.Label, o) {
				want = append(want, e)
			}
			if e.Label.Level == o.Level && e.Label.Cats == o.Cats {
				n++
			}
		}
		if got := l.Seen(o); !slices.Equal(got, want) {
			t.Fatalf("%v: Seen(%v) = %v", all, o, got)
		}
		if got := string(l.Print(o)); got != told(want) {
			t.Fatalf("%v: Print(%v) = %q", all, o, got)
		}
		if got := l.Of(o); got != n {
			t.Fatalf("%v: Of(%v) = %d", all, o, got)
		}
		for _, quota := range []int{math.MinInt, -1, 0, n - 1, n, n + 1, math.MaxInt} {
			if got := l.Full(o, quota); got != (n >= quota) {
				t.Fatalf("%v: Full(%v, %d) = %v", all, o, quota, got)
			}
		}
	}
}

// with is a log of these entries.
func with(t *testing.T, all []api.Entry) *audit.Log {
	t.Helper()
	l := audit.New()
	if l == nil {
		t.Fatal("New() = nil")
	}
	for _, e := range all {
		if fault := l.Add(e); fault != api.OK {
			t.Fatalf("Add(%v): %d", e, fault)
		}
	}
	return l
}

// P20.1, P20.2: where it is told by hand.
func TestCalls(t *testing.T) {
	l := with(t, []api.Entry{by("ann", "0"), by("bob", "1")}) // The document's example.
	if got := string(l.Print(of("0"))); got != "1 ann 0 cat a ok\n" {
		t.Errorf("Print(0) = %q", got)
	}
	if got := string(l.Print(of("1"))); got != "1 ann 0 cat a ok\n2 bob 1 cat a ok\n" {
		t.Errorf("Print(1) = %q", got)
	}
	if fault := l.Add(api.Entry{User: "c", Label: of("0:0,63"), Verb: "log", File: "-", Outcome: "7"}); fault != api.OK {
		t.Fatal(fault)
	}
	if got := string(l.Print(of("0:0,5,63"))); got != "1 ann 0 cat a ok\n2 c 0:0,63 log - 7\n" {
		t.Errorf("Print(0:0,5,63) = %q", got)
	}
	if l.Len() != 3 || l.Of(of("1")) != 1 || l.Of(of("2")) != 0 || !l.Full(of("1"), 1) || l.Full(of("1"), 2) || !l.Full(of("2"), 0) || l.Full(of("2"), 1) {
		t.Errorf("%d, %d, %d", l.Len(), l.Of(of("1")), l.Of(of("2")))
	}
	if got := l.Seen(of("1")); !slices.Equal(got, []api.Entry{by("ann", "0"), by("bob", "1")}) {
		t.Errorf("Seen(1) = %v", got)
	}
}

// P20.1: New, each time another log.
func TestNew(t *testing.T) {
	l, other := with(t, nil), with(t, nil)
	check(t, l, nil)
	all := row("0 1")
	for _, e := range all {
		l.Add(e)
	}
	check(t, l, all)
	check(t, other, nil)
	check(t, with(t, nil), nil)
}

// named is an entry of which one of the four names is this one.
func named(k int, s string) api.Entry {
	e := by("ann", "1")
	switch k {
	case 0:
		e.User = s
	case 1:
		e.Verb = s
	case 2:
		e.File = s
	case 3:
		e.Outcome = s
	}
	return e
}

// P20.1: an entry that is right is added.
func TestCheck(t *testing.T) {
	for k := range 4 {
		for _, s := range []string{"-", "!", "~", "7", "ann", "a/b.c", "?", "\\\"", strings.Repeat("x", api.MaxName)} {
			e := named(k, s)
			if fault := audit.Check(e); fault != api.OK {
				t.Errorf("Check(%v) = %d", e, fault)
			}
			check(t, with(t, []api.Entry{e}), []api.Entry{e})
		}
	}
	for _, a := range []api.Label{{}, {Level: 15}, {Cats: 1 << 63}, {Level: 7, Cats: 5}, label.Top()} {
		e := by("ann", "0")
		e.Label = a
		if fault := audit.Check(e); fault != api.OK {
			t.Errorf("Check(%v) = %d", e, fault)
		}
		check(t, with(t, []api.Entry{e}), []api.Entry{e})
	}
}

// wrong is entries that may not be.
func wrong() []api.Entry {
	all := []api.Entry{{}, {Label: api.Label{Level: 16}}}
	for k := range 4 {
		for _, s := range []string{
			"", " ", "a b", " a", "a ", "a\n", "\n", "\t", "\x00", "\x1f", "\x7f", "\x80", "\xff", "é", "a\xc3\xa9", strings.Repeat("x", api.MaxName+1), strings.Repeat("x", 5000),
		} {
			all = append(all, named(k, s))
		}
	}
	for _, a := range []api.Label{{Level: -1}, {Level: 16}, {Level: math.MinInt}, {Level: math.MaxInt, Cats: 1}} {
		e := by("ann", "0")
		e.Label = a
		all = append(all, e)
	}
	return all
}

// P20.1, P2: an entry that may not be is refused, and changes nothing.
func TestWrongEntries(t *testing.T) {
	all := row("0 1 1:1")
	l, none := with(t, all), audit.New()
	for _, e := range wrong() {
		if fault := audit.Check(e); fault != api.ErrArg {
			t.Errorf("Check(%v) = %d", e, fault)
		}
		if fault := l.Add(e); fault != api.ErrArg {
			t.Errorf("Add(%v) = %d", e, fault)
		}
		if fault := none.Add(e); fault != api.ErrArg {
			t.Errorf("Add(%v) = %d", e, fault)
		}
	}
	check(t, l, all)
	check(t, none, nil)
}

// P20.1, P20.2: of all short rows of entries.
func TestAll(t *testing.T) {
	words := []string{"0", "1", "0:0", "1:1", "2:0,1"}
	rows := []string{""}
	for range 4 {
		for _, s := range rows {
			check(t, with(t, row(s)), row(s))
		}
		var next []string
		for _, s := range rows {
			for _, word := range words {
				next = append(next, s+" "+word)
			}
		}
		rows = next
	}
}

// P20.2: the same entry may stand there many times; the numbers go on behind 9.
func TestAlike(t *testing.T) {
	var all []api.Entry
	for range 120 {
		all = append(all, by("ann", "1"), by("ann", "0"))
	}
	l := with(t, all)
	check(t, l, all)
	lines := strings.Split(string(l.Print(of("0"))), "\n")
	if len(lines) != 121 || lines[9] != "10 ann 0 cat a ok" || lines[119] != "120 ann 0 cat a ok" || lines[120] != "" {
		t.Errorf("%q", lines)
	}
}

// P20.3: without the entries that one may not see, and with more of them, one is told the same.
func TestHiddenPlaysNoPart(t *testing.T) {
	turn := rand.New(rand.NewSource(20))
	words := []string{"0", "1", "2", "0:0", "1:1", "2:0,1"}
	for range 300 {
		var names []string
		for range turn.Intn(12) {
			names = append(names, words[turn.Intn(len(words))])
		}
		all := row(strings.Join(names, " "))
		for _, o := range some()[:6] {
			l, cut, more := with(t, all), audit.New(), audit.New()
			hidden := by("eve", "3:9")
			for _, e := range all {
				if below(e.Label, o) {
					cut.Add(e)
				}
				more.Add(hidden)
				more.Add(e)
				more.Add(hidden)
			}
			for _, other := range []*audit.Log{cut, more} {
				if !slices.Equal(other.Seen(o), l.Seen(o)) || !bytes.Equal(other.Print(o), l.Print(o)) {
					t.Fatalf("%v at %v: %q, but %q", all, o, l.Print(o), other.Print(o))
				}
				for _, a := range some() {
					if below(a, o) && (other.Of(a) != l.Of(a) || other.Full(a, 2) != l.Full(a, 2)) {
						t.Fatalf("%v at %v: %d of %v, but %d", all, o, l.Of(a), a, other.Of(a))
					}
				}
			}
		}
	}
}

// P20.4: what was seen stays, in order, and what is added stands behind.
func TestSeenStays(t *testing.T) {
	l := audit.New()
	for i, e := range row("0 1 0 2:0,1 1:1 0:0 0 1 2 0 1:1 2:0,1") {
		for _, o := range some() {
			was, printed := l.Seen(o), l.Print(o)
			f := l.Fork()
			if fault := f.Add(e); fault != api.OK {
				t.Fatal(i, fault)
			}
			want, more := slices.Clone(was), slices.Clone(printed)
			if below(e.Label, o) {
				want = append(want, e)
				more = append(more, strconv.Itoa(len(want))+" "+e.User+" "+label.Print(e.Label)+" v "+e.File+" o\n"...)
			}
			if got := f.Seen(o); !slices.Equal(got, want) {
				t.Fatalf("%v, then %v, at %v: %v", was, e, o, got)
			}
			if got := f.Print(o); !bytes.Equal(got, more) {
				t.Fatalf("%q, then %v, at %v: %q", printed, e, o, got)
			}
		}
		if fault := l.Add(e); fault != api.OK {
			t.Fatal(i, fault)
		}
	}
}

// P20.1, P2: up to 1000000 entries, and none behind; what is wrong with an entry counts first.
func TestMostEntries(t *testing.T) {
	const n = 1000000
	l := audit.New()
	for i := range n - 1 {
		if fault := l.Add(by("ann", "0")); fault != api.OK {
			t.Fatal(i, fault)
		}
	}
	f := l.Fork()
	for k, one := range []*audit.Log{l, f} {
		last := by("u"+strconv.Itoa(k), "1")
		if fault := one.Add(last); fault != api.OK {
			t.Fatal(fault)
		}
		for _, e := range row("0 1 15:0,63") {
			if fault := one.Add(e); fault != api.ErrLimit {
				t.Fatalf("Add(%v) = %d", e, fault)
			}
		}
		for _, e := range wrong() {
			if fault := one.Add(e); fault != api.ErrArg {
				t.Fatalf("Add(%v) = %d", e, fault)
			}
		}
		if one.Len() != n || one.Of(of("0")) != n-1 || one.Of(of("1")) != 1 || !one.Full(of("0"), n-1) || one.Full(of("0"), n) {
			t.Fatal(one.Len(), one.Of(of("0")), one.Of(of("1")))
		}
		if seen := one.Seen(of("1")); len(seen) != n || seen[0] != by("ann", "0") || seen[n-1] != last {
			t.Fatal(len(seen))
		}
		if fault := one.Fork().Add(by("ann", "0")); fault != api.ErrLimit {
			t.Fatal(fault)
		}
		if b := one.Print(of("1")); !bytes.HasSuffix(b, []byte("\n999999 ann 0 cat a ok\n1000000 u"+strconv.Itoa(k)+" 1 cat a ok\n")) {
			t.Fatalf("%.100q", b[max(0, len(b)-100):])
		}
	}
}

// P20.2: of nil.
func TestNil(t *testing.T) {
	var l *audit.Log
	for _, e := range append(wrong(), row("0 1")...) {
		if fault := l.Add(e); fault != api.ErrNil {
			t.Errorf("Add(%v) = %d", e, fault)
		}
	}
	for _, o := range some() {
		if l.Of(o) != 0 || len(l.Seen(o)) > 0 || len(l.Print(o)) > 0 {
			t.Errorf("%v: %d, %v, %q", o, l.Of(o), l.Seen(o), l.Print(o))
		}
		for _, quota := range []int{math.MinInt, -1, 0, 1, math.MaxInt} {
			if l.Full(o, quota) {
				t.Errorf("Full(%v, %d)", o, quota)
			}
		}
	}
	if l.Len() != 0 || l.Fork() != nil {
		t.Errorf("%d, %v", l.Len(), l.Fork())
	}
}

// P1: a log that no call made is answered, too.
func TestNoCallMade(t *testing.T) {
	l := &audit.Log{}
	f := l.Fork()
	for _, one := range []*audit.Log{l, f} {
		one.Add(by("ann", "0"))
		one.Add(api.Entry{})
		one.Len()
		one.Of(of("0"))
		one.Full(of("0"), 1)
		one.Seen(of("0"))
		one.Print(of("0"))
	}
}

// P4, P20.2: of a log and its Fork, what becomes of the one changes nothing of the other one.
func TestFork(t *testing.T) {
	l, all := audit.New(), []api.Entry(nil)
	more := func(one *audit.Log, have []api.Entry, user, a string) []api.Entry {
		t.Helper()
		if fault := one.Add(by(user, a)); fault != api.OK {
			t.Fatal(fault)
		}
		have = append(slices.Clone(have), by(user, a))
		check(t, one, have)
		return have
	}
	for k := range 70 {
		n := strconv.Itoa(k)
		f, g := l.Fork(), l.Fork()
		check(t, f, all)
		ofF := more(f, all, "f"+n, "1")
		check(t, l, all)
		was := all
		all = more(l, all, "l"+n, "0")
		check(t, f, ofF)
		check(t, g, was)
		ofG := more(g, was, "g"+n, "2")
		h := f.Fork()
		ofH := more(h, ofF, "h"+n, "0:0")
		ofF = more(f, ofF, "f"+n, "1:1")
		check(t, h, ofH)
		check(t, g, ofG)
		check(t, l, all)
	}
}

// P4, P20.2, P20.4: of many logs that come from one, each is forked or added to by turns.
func TestForks(t *testing.T) {
	turn := rand.New(rand.NewSource(4))
	logs, models := []*audit.Log{audit.New()}, [][]api.Entry{nil}
	words := []string{"0", "1", "2", "0:0", "1:1", "2:0,1"}
	for n := range 1000 {
		k := turn.Intn(len(logs))
		if turn.Intn(4) == 0 && len(logs) < 12 {
			logs, models = append(logs, logs[k].Fork()), append(models, models[k])
			continue
		}
		e := by("u"+strconv.Itoa(n), words[turn.Intn(len(words))])
		if fault := logs[k].Add(e); fault != api.OK {
			t.Fatal(fault)
		}
		models[k] = append(slices.Clone(models[k]), e)
		if turn.Intn(20) == 0 {
			for i := range logs {
				check(t, logs[i], models[i])
			}
		}
	}
	for i := range logs {
		check(t, logs[i], models[i])
	}
}

// spoil writes into all of a list, and behind it.
func spoil[E any](l []E, with E) {
	l = l[:cap(l)]
	for i := range l {
		l[i] = with
	}
}

// P3: what is answered is new memory, of a Fork, too.
func TestAnswersAreNew(t *testing.T) {
	all := row("0 1 0 1:1 0 0")
	l := with(t, all)
	f := l.Fork()
	kept, printed := l.Seen(of("0")), l.Print(of("0"))
	for _, one := range []*audit.Log{l, f} {
		for _, o := range some() {
			spoil(one.Seen(o), by("eve", "0"))
			spoil(one.Print(o), 'x')
		}
		check(t, l, all)
		check(t, f, all)
	}
	for range 20 {
		l.Add(by("eve", "0"))
		f.Add(by("bob", "0"))
	}
	if want := []api.Entry{all[0], all[2], all[4], all[5]}; !slices.Equal(kept, want) || string(printed) != told(want) {
		t.Errorf("kept: %v, %q", kept, printed)
	}
}

// FuzzLog is P1, P2, P20.1 to P20.4: of any entries, of which some may not be.
func FuzzLog(f *testing.F) {
	f.Add("ann", "cat", "a", "ok", 0, uint64(0), 3)
	f.Add("a b", "", "\n", "\xff", 16, uint64(math.MaxUint64), math.MinInt)
	f.Add("-", strings.Repeat("x", 64), strings.Repeat("x", 65), "é", -1, uint64(1<<63), math.MaxInt)
	name := func(s string) bool {
		return len(s) > 0 && len(s) <= 64 && strings.IndexFunc(s, func(r rune) bool { return r < 33 || r > 126 }) < 0
	}
	f.Fuzz(func(t *testing.T, user, verb, file, outcome string, level int, cats uint64, quota int) {
		names := []string{user, verb, file, outcome}
		l, all := audit.New(), []api.Entry(nil)
		for k := range 16 {
			e := api.Entry{User: names[k%4], Verb: names[k/2%4], File: names[k/3%4], Outcome: names[(k+3)%4]}
			e.Label = api.Label{Level: level - k%3, Cats: cats >> (k % 5)}
			want := api.ErrArg
			if e.Label.Level >= 0 && e.Label.Level <= 15 && name(e.User) && name(e.Verb) && name(e.File) && name(e.Outcome) {
				want = api.OK
				all = append(all, e)
			}
			if fault := audit.Check(e); fault != want {
				t.Fatalf("Check(%v) = %d", e, fault)
			}
			if fault := l.Add(e); fault != want {
				t.Fatalf("Add(%v) = %d", e, fault)
			}
			check(t, l, all)
			if n := l.Of(e.Label); l.Full(e.Label, quota) != (n >= quota) {
				t.Fatalf("Full(%v, %d) of %d", e.Label, quota, n)
			}
			seen := l.Seen(e.Label)
			if got := string(l.Print(e.Label)); got != told(seen) {
				t.Fatalf("%v: %q", seen, got)
			}
		}
		check(t, l.Fork(), all)
	})
}
