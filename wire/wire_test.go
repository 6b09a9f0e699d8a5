package wire_test

import (
	"bytes"
	"fmt"
	"math"
	"reflect"
	"regexp"
	"slices"
	"strconv"
	"strings"
	"testing"

	"jalousie/api"
	"jalousie/label"
	"jalousie/wire"
)

// row is the document's table: a verb, its word, what is behind the label, and whether a Body may come.
type row struct {
	verb    api.Verb
	word    string
	file    bool
	numbers int
	body    bool
}

func rows() []row {
	return []row{
		{api.List, "list", false, 0, false},
		{api.Log, "log", true, 0, false},
		{api.Cat, "cat", true, 1, false},
		{api.Labels, "labels", true, 1, false},
		{api.Diff, "diff", true, 3, false},
		{api.Preview, "preview", true, 1, true},
		{api.Submit, "submit", true, 1, true},
		{api.Audit, "audit", false, 0, false},
		{api.Ingest, "ingest", true, 0, true},
		{api.Export, "export", true, 0, false},
		{api.Rank, "rank", true, 0, false},
	}
}

// noVerbs is verbs that have no word.
func noVerbs() []api.Verb {
	return []api.Verb{api.NoVerb, -1, 12, 13, 100, math.MinInt, math.MaxInt}
}

// of is the label that a text says.
func of(s string) api.Label {
	a, is := label.Parse(s)
	if !is {
		panic("no label: " + s)
	}
	return a
}

// long is so many bytes.
func long(n int) []byte {
	return bytes.Repeat([]byte("x"), n)
}

// same: are two requests alike? A Body of nothing may be nil.
func same(a, b api.Request) bool {
	return a.Verb == b.Verb && a.Label == b.Label && a.File == b.File && a.A == b.A && a.B == b.B && a.C == b.C && bytes.Equal(a.Body, b.Body)
}

// isName is text.Name, told by itself.
func isName(s string) bool {
	return len(s) > 0 && len(s) <= 64 && s != "-" && strings.IndexFunc(s, func(r rune) bool { return r < 33 || r > 126 }) < 0
}

// wrong is P21.1, of Check: told of each row by itself.
func wrong(r api.Request) api.Errno {
	for _, one := range rows() {
		if one.verb != r.Verb {
			continue
		}
		if r.Label.Level < 0 || r.Label.Level > 15 || one.file != isName(r.File) || !one.file && r.File != "" || !one.body && len(r.Body) > 0 {
			return api.ErrForm
		}
		for i, n := range []int{r.A, r.B, r.C} {
			if n < 0 || n > math.MaxInt32 || i >= one.numbers && n != 0 {
				return api.ErrForm
			}
		}
		if len(r.Body) > 1<<15 {
			return api.ErrLimit
		}
		return api.OK
	}
	return api.ErrForm
}

// told is P21.2, of Print: what a right request is printed as.
func told(r api.Request) string {
	for _, one := range rows() {
		if one.verb == r.Verb {
			s := one.word + " " + label.Print(r.Label)
			if one.file {
				s += " " + r.File
			}
			for _, n := range []int{r.A, r.B, r.C}[:one.numbers] {
				s += fmt.Sprintf(" %d", n)
			}
			return s + "\n" + string(r.Body)
		}
	}
	return ""
}

// forms is an expression of each row's line.
var forms = func() []*regexp.Regexp {
	var all []*regexp.Regexp
	for _, one := range rows() {
		form := "^" + one.word + ` ([0-9:,]+)`
		if one.file {
			form += ` ([!-~]{1,64})`
		}
		form += strings.Repeat(` (0|[1-9][0-9]*)`, one.numbers) + "$"
		all = append(all, regexp.MustCompile(form))
	}
	return all
}()

// read is P21.2, of Parse: told by the expressions.
func read(b []byte) (api.Request, api.Errno) {
	head, body, is := strings.Cut(string(b), "\n")
	if !is {
		return api.Request{}, api.ErrForm
	}
	for i, one := range rows() {
		words := forms[i].FindStringSubmatch(head)
		if words == nil {
			continue
		}
		a, is := label.Parse(words[1])
		if !is || one.file && words[2] == "-" || !one.body && body != "" {
			return api.Request{}, api.ErrForm
		}
		r := api.Request{Verb: one.verb, Label: a, Body: []byte(body)}
		if one.file {
			r.File = words[2]
		}
		for i, word := range words[len(words)-one.numbers:] {
			n, err := strconv.ParseInt(word, 10, 32)
			if err != nil {
				return api.Request{}, api.ErrForm
			}
			*[]*int{&r.A, &r.B, &r.C}[i] = int(n)
		}
		if len(body) > 1<<15 {
			return api.Request{}, api.ErrLimit
		}
		return r, api.OK
	}
	return api.Request{}, api.ErrForm
}

// check is P21.1, P21.2, P21.4, P2 of a request.
func check(t *testing.T, r api.Request) {
	t.Helper()
	want := wrong(r)
	if e := wire.Check(r); e != want {
		t.Fatalf("Check(%+v) = %d, not %d", r, e, want)
	}
	b, e := wire.Print(r)
	if e != want || e != api.OK && len(b) > 0 {
		t.Fatalf("Print(%+v) = %q, %d, not %d", r, b, e, want)
	}
	if e != api.OK {
		return
	}
	if string(b) != told(r) {
		t.Fatalf("Print(%+v) = %q", r, b)
	}
	if again, e := wire.Parse(b); e != api.OK || !same(again, r) {
		t.Fatalf("Parse(%q) = %+v, %d", b, again, e)
	}
}

// checkBytes is P21.2, P21.4, P2 of bytes.
func checkBytes(t *testing.T, b []byte) {
	t.Helper()
	r, e := wire.Parse(b)
	want, wantE := read(b)
	if e != wantE || !same(r, want) {
		t.Fatalf("Parse(%q) = %+v, %d, not %+v, %d", b, r, e, want, wantE)
	}
	if e != api.OK {
		if !reflect.DeepEqual(r, api.Request{}) {
			t.Fatalf("Parse(%q) = %+v, %d", b, r, e)
		}
		return
	}
	if wire.Check(r) != api.OK {
		t.Fatalf("Parse(%q) = %+v, which is wrong", b, r)
	}
	if again, e := wire.Print(r); e != api.OK || !bytes.Equal(again, b) {
		t.Fatalf("Print(Parse(%q)) = %q, %d", b, again, e)
	}
}

// P21.1: Word.
func TestWord(t *testing.T) {
	for _, one := range rows() {
		if got := wire.Word(one.verb); got != one.word {
			t.Errorf("Word(%d) = %q", one.verb, got)
		}
	}
	for _, v := range noVerbs() {
		if got := wire.Word(v); got != "" {
			t.Errorf("Word(%d) = %q", v, got)
		}
	}
}

// P21.1, P21.2: where it is told by hand.
func TestCalls(t *testing.T) {
	for s, want := range map[string]api.Request{
		"diff 0 a 0 1 3\n":                {Verb: api.Diff, File: "a", B: 1, C: 3}, // The document's example.
		"list 15:0,63\n":                  {Verb: api.List, Label: of("15:0,63")},
		"audit 0\n":                       {Verb: api.Audit},
		"log 3:1 src/a\n":                 {Verb: api.Log, Label: of("3:1"), File: "src/a"},
		"export 1 --\n":                   {Verb: api.Export, Label: of("1"), File: "--"},
		"rank 0 0\n":                      {Verb: api.Rank, File: "0"},
		"cat 0 list 2147483647\n":         {Verb: api.Cat, File: "list", A: math.MaxInt32},
		"labels 2 a 10\n":                 {Verb: api.Labels, Label: of("2"), File: "a", A: 10},
		"preview 0 a 1\n":                 {Verb: api.Preview, File: "a", A: 1},
		"submit 0 a 0\n\n\x00\xff list 0": {Verb: api.Submit, File: "a", Body: []byte("\n\x00\xff list 0")},
		"ingest 1:5 a\nx\r\n":             {Verb: api.Ingest, Label: of("1:5"), File: "a", Body: []byte("x\r\n")},
		"ingest 1:5 a\n":                  {Verb: api.Ingest, Label: of("1:5"), File: "a"},
	} {
		if got, e := wire.Parse([]byte(s)); e != api.OK || !same(got, want) {
			t.Errorf("Parse(%q) = %+v, %d", s, got, e)
		}
		if got, e := wire.Print(want); e != api.OK || string(got) != s {
			t.Errorf("Print(%+v) = %q, %d", want, got, e)
		}
		check(t, want)
		checkBytes(t, []byte(s))
	}
}

// P21.1, P21.2, P21.4: of each verb, with a field that is right or wrong.
func TestRequests(t *testing.T) {
	labels := []api.Label{{}, of("15"), of("3:0,63"), label.Top(), {Level: -1}, {Level: 16}, {Level: math.MinInt}, {Level: math.MaxInt, Cats: 1}}
	files := []string{"", "a", "-", "--", "a b", "a\n", "\x7f", "é", "!~", strings.Repeat("x", 64), strings.Repeat("x", 65), "F", "0"}
	numbers := []int{0, 1, math.MaxInt32, -1, math.MaxInt32 + 1, math.MinInt, math.MaxInt}
	bodies := [][]byte{nil, {}, []byte("\n"), []byte("x"), long(1 << 15), long(1<<15 + 1)}
	verbs := noVerbs()
	for _, one := range rows() {
		verbs = append(verbs, one.verb)
	}
	for _, v := range verbs {
		for _, a := range labels {
			for _, file := range files {
				for _, body := range bodies {
					check(t, api.Request{Verb: v, Label: a, File: file, Body: body})
					check(t, api.Request{Verb: v, Label: a, File: file, A: 2, Body: body})
				}
			}
		}
		for _, file := range []string{"", "a", "-"} {
			for i := range numbers {
				for j := range numbers {
					for k := range numbers {
						r := api.Request{Verb: v, File: file, A: numbers[i], B: numbers[j], C: numbers[k]}
						check(t, r)
						r.Body = []byte("x")
						check(t, r)
					}
				}
			}
		}
	}
}

// P21.1, P2: of two faults the form counts first.
func TestFormFirst(t *testing.T) {
	r := api.Request{Verb: api.Submit, File: "a", Body: long(1<<15 + 1)}
	if e := wire.Check(r); e != api.ErrLimit {
		t.Errorf("Check: %d", e)
	}
	r.B = 1
	if e := wire.Check(r); e != api.ErrForm {
		t.Errorf("Check: %d", e)
	}
	for s, want := range map[string]api.Errno{"submit 0 a 0": api.ErrLimit, "submit 0 a": api.ErrForm, "cat 0 a 0": api.ErrForm, "ingest 0 -": api.ErrForm, "ingest 0 a": api.ErrLimit} {
		b := append([]byte(s+"\n"), long(1<<15+1)...)
		if r, e := wire.Parse(b); e != want || !reflect.DeepEqual(r, api.Request{}) {
			t.Errorf("Parse(%q ..) = %+v, %d", s, r, e)
		}
		checkBytes(t, b)
		checkBytes(t, b[:len(b)-1])
	}
}

// P21.2, P2: what is no request.
func TestWrongBytes(t *testing.T) {
	for _, s := range []string{
		"", "\n", " \n", "list", "list 0", "list\n", "list \n", "list 0 \n", " list 0\n", "list  0\n", "list 0 a\n", "list 0\nx", "list 0\n\n", "List 0\n", "lists 0\n", "list 0\r\n",
		"list 16\n", "list 00\n", "list -1\n", "list 0:\n", "list 0:1,1\n", "list 0:1,0\n", "list 0:64\n", "list ?\n", "what 0\n", " 0\n", "0\n", "0 0\n", "\x00 0\n",
		"log 0\n", "log 0 \n", "log 0 -\n", "log 0 a 0\n", "log 0 a b\n", "log 0 \x7f\n", "log 0 \t\n", "log 0 é\n", "log a 0\n", "log 0 a\nx",
		"cat 0 a\n", "cat 0 a \n", "cat 0 a 01\n", "cat 0 a +1\n", "cat 0 a -1\n", "cat 0 a 1 1\n", "cat 0 a 2147483648\n", "cat 0 a 99999999999999999999999\n", "cat 0 a x\n", "cat 0 - 1\n", "cat 0 1\n",
		"diff 0 a 0 1\n", "diff 0 a 0 1 3 3\n", "diff 0 a 0 1 ?\n", "diff 0 a 0 01 3\n", "diff 0 a  1 3\n",
		"submit 0 a\n@@", "submit 0 a 0", "preview 0 a 0 0\n", "ingest 0\nx", "ingest 0 a 0\nx", "ingest 0 a b\nx", "rank 0\n", "export 0 a 1\n", "audit 0 a\n", "audit\n",
		"log 0 " + strings.Repeat("x", 65) + "\n", strings.Repeat(" ", 5000) + "\n", strings.Repeat("list 0 ", 1000) + "\n",
	} {
		if r, e := wire.Parse([]byte(s)); e != api.ErrForm || !reflect.DeepEqual(r, api.Request{}) {
			t.Errorf("Parse(%q) = %+v, %d", s, r, e)
		}
		checkBytes(t, []byte(s))
	}
}

// P21.2, P21.4: of all short lines of these words.
func TestLines(t *testing.T) {
	words := []string{"list", "log", "labels", "diff", "submit", "ingest", "0", "2:1", "-", "", "01"}
	lines := []string{""}
	for n := range 5 {
		var next []string
		for _, s := range lines {
			for _, word := range words {
				if n > 0 {
					word = s + " " + word
				}
				next = append(next, word)
			}
		}
		lines = next
		if n == 4 {
			// The longest ones are too many to ask all of them.
			for i, s := range lines {
				if i%7 == 0 {
					checkBytes(t, []byte(s+"\n"))
				}
			}
			return
		}
		for _, s := range lines {
			checkBytes(t, []byte(s))
			checkBytes(t, []byte(s+"\n"))
			checkBytes(t, []byte(s+"\nx"))
		}
	}
}

// P21.2, P21.4: a byte that is another one, is left out, or is put in.
func TestBytes(t *testing.T) {
	for _, s := range []string{"list 3:1\n", "diff 0 a 0 17 3\n", "submit 1:0,5 a/b 9\n@@\n", "ingest 0 --\nx", "cat 15 - 0\n"} {
		for i := range len(s) + 1 {
			for c := range 256 {
				one := string([]byte{byte(c)})
				checkBytes(t, []byte(s[:i]+one+s[i:]))
				if i < len(s) {
					checkBytes(t, []byte(s[:i]+one+s[i+1:]))
				}
			}
			if i < len(s) {
				checkBytes(t, []byte(s[:i]+s[i+1:]))
			}
			checkBytes(t, []byte(s[:i]))
		}
	}
}

// codes is the document's list.
func codes() map[api.Errno]string {
	return map[api.Errno]string{
		api.OK: "ok", api.ErrNil: "nothing", api.ErrArg: "too-much", api.ErrForm: "malformed", api.ErrLimit: "too-long", api.ErrLabel: "bad-label", api.ErrGone: "not-found", api.ErrKnown: "exists",
		api.ErrApply: "misapplied", api.ErrRight: "forbidden", api.ErrClash: "conflict", api.ErrQuota: "quota", api.ErrDenied: "denied", api.ErrFull: "audit-full", api.ErrPolicy: "no-policy",
	}
}

// P21.3, P21.4: Code, Answer and Read.
func TestAnswers(t *testing.T) {
	for e, code := range codes() {
		if got := wire.Code(e); got != code {
			t.Errorf("Code(%d) = %q", e, got)
		}
		for _, body := range []string{"", "\n", "x", "ok\n", "a\nb\n", "\x00\xff", string(long(1<<15 + 1))} {
			r := api.Response{Errno: e, Body: []byte(body)}
			b := wire.Answer(r)
			if string(b) != code+"\n"+body {
				t.Errorf("Answer(%d, %.20q) = %.40q", e, body, b)
			}
			got, fault := wire.Read(b)
			if fault != api.OK || got.Errno != e || string(got.Body) != body {
				t.Errorf("Read(%.40q) = %v, %d", b, got, fault)
			}
		}
	}
}

// P21.3, P2: what is none.
func TestWrongAnswers(t *testing.T) {
	for _, e := range []api.Errno{-1, 15, 16, math.MinInt, math.MaxInt} {
		if got := wire.Code(e); got != "" {
			t.Errorf("Code(%d) = %q", e, got)
		}
		b := wire.Answer(api.Response{Errno: e, Body: []byte("x")})
		if string(b) != "\nx" {
			t.Errorf("Answer(%d, x) = %q", e, b)
		}
	}
	for _, s := range []string{"", "\n", "\nx", "\nok\n", "ok", "OK\n", "ok \n", " ok\n", "ok\r\n", "o\n", "okk\n", "0\n", "x\nok\n", "too much\n", "no-policy", "quota quota\n", "\x00\n"} {
		if r, e := wire.Read([]byte(s)); e != api.ErrForm || !reflect.DeepEqual(r, api.Response{}) {
			t.Errorf("Read(%q) = %v, %d", s, r, e)
		}
	}
}

// room is a copy with spare room behind its end.
func room(b []byte) []byte {
	return append(make([]byte, 0, len(b)+8), b...)
}

// spoil writes into all of a list, and behind it.
func spoil(b []byte) {
	b = b[:cap(b)]
	for i := range b {
		b[i] = '#'
	}
}

// P3: what is handed in stays, and what is answered is new memory.
func TestAnswersAreNew(t *testing.T) {
	for _, body := range []string{"", "x", "ab\ncd\n"} {
		r := api.Request{Verb: api.Submit, File: "a", A: 3, Body: room([]byte(body))}
		b, _ := wire.Print(r)
		was := slices.Clone(b)
		spoil(r.Body)
		if !bytes.Equal(b, was) {
			t.Errorf("Print lies in what was handed in: %q", b)
		}
		in := room(b)
		behind := slices.Clone(in[:cap(in)])
		got, _ := wire.Parse(in)
		if !bytes.Equal(in[:cap(in)], behind) {
			t.Errorf("Parse changed %q", behind)
		}
		spoil(in)
		if string(got.Body) != body || got.File != "a" {
			t.Errorf("Parse lies in what was handed in: %v", got)
		}
		out := api.Response{Errno: api.ErrClash, Body: room([]byte(body))}
		b = wire.Answer(out)
		spoil(out.Body)
		if string(b) != "conflict\n"+body {
			t.Errorf("Answer lies in what was handed in: %q", b)
		}
		in = room(b)
		back, _ := wire.Read(in)
		spoil(back.Body)
		if string(in) != "conflict\n"+body {
			t.Errorf("Read changed, or lies in, what was handed in: %q", in)
		}
	}
}

// FuzzParse is P1, P2, P21.2, P21.4: of any bytes.
func FuzzParse(f *testing.F) {
	for _, s := range []string{"diff 0 a 0 1 3\n", "submit 1:0,5 a 0\n@@ -1,1 +1,0 @@\n-x\n", "list 0\n", "log 0 -\n", "cat 0 a 2147483648\n", "", "\n\n"} {
		f.Add([]byte(s))
	}
	f.Fuzz(func(t *testing.T, b []byte) {
		checkBytes(t, b)
	})
}

// FuzzPrint is P1, P2, P21.1, P21.2, P21.4: of any request.
func FuzzPrint(f *testing.F) {
	f.Add(5, 0, uint64(0), "a", 0, 1, 3, []byte(nil))
	f.Add(7, 3, uint64(1<<63), "-", math.MaxInt32, 0, 0, []byte("\n\xff"))
	f.Add(-1, 16, uint64(0), "a b", math.MaxInt, math.MinInt, -1, []byte("x"))
	f.Fuzz(func(t *testing.T, verb, level int, cats uint64, file string, a, b, c int, body []byte) {
		for _, v := range []int{verb, verb % 13} {
			check(t, api.Request{Verb: api.Verb(v), Label: api.Label{Level: level, Cats: cats}, File: file, A: a, B: b, C: c, Body: body})
			check(t, api.Request{Verb: api.Verb(v), Label: api.Label{Level: level & 15, Cats: cats}, File: file, A: a & math.MaxInt32, Body: body})
			check(t, api.Request{Verb: api.Verb(v), Label: api.Label{Level: level & 15, Cats: cats}, File: file, A: a & math.MaxInt32, B: b & math.MaxInt32, C: c & math.MaxInt32})
		}
	})
}

// FuzzRead is P1, P2, P21.3, P21.4: of any bytes.
func FuzzRead(f *testing.F) {
	for _, s := range []string{"ok\n", "quota\nx", "conflict\n\n", "", "\nok", "no-policy"} {
		f.Add([]byte(s))
	}
	f.Fuzz(func(t *testing.T, b []byte) {
		r, e := wire.Read(b)
		head, body, is := strings.Cut(string(b), "\n")
		for one, code := range codes() {
			if is && code == head {
				if e != api.OK || r.Errno != one || string(r.Body) != body || !bytes.Equal(wire.Answer(r), b) {
					t.Fatalf("Read(%q) = %v, %d", b, r, e)
				}
				return
			}
		}
		if e != api.ErrForm || !reflect.DeepEqual(r, api.Response{}) {
			t.Fatalf("Read(%q) = %v, %d", b, r, e)
		}
	})
}
