package policy_test

import (
	"bytes"
	"math"
	"slices"
	"strconv"
	"strings"
	"testing"

	"jalousie/api"
	"jalousie/label"
	"jalousie/policy"
)

const allCats = 1<<64 - 1

// head is the seven lines that must be said.
const head = "levels 3\ncats 2\nlines 20\ncommits 5\nlog 9\ncontext 3\nhidden ...\n"

// good is the policy of head, with users and floors.
func good() api.Policy {
	return api.Policy{
		Levels: 3, Cats: 2, Lines: 20, Commits: 5, Log: 9, Context: 3, Hidden: "...",
		Users:  []api.User{{Name: "ann", Clear: api.Label{Level: 2, Cats: 3}, Admin: true}, {Name: "bob", Clear: api.Label{Level: 1}}},
		Floors: []api.Floor{{Prefix: "src/", Label: api.Label{Level: 1}}, {Prefix: "src/key", Label: api.Label{Cats: 2}}},
	}
}

const goodText = head + "user ann 2:0,1 admin\nuser bob 1\nfloor src/ 1\nfloor src/key 0:1\n"

// most is a policy of so many users, each of a name of n bytes and of the longest label.
func most(users, n int) api.Policy {
	p := good()
	p.Levels, p.Cats, p.Users, p.Floors = 16, 64, nil, nil
	for i := range users {
		s := strconv.Itoa(i)
		p.Users = append(p.Users, api.User{Name: strings.Repeat("n", n-len(s)) + s, Clear: label.Top(), Admin: true})
	}
	return p
}

func same(p, q api.Policy) bool {
	return p.Levels == q.Levels && p.Cats == q.Cats && p.Lines == q.Lines && p.Commits == q.Commits && p.Log == q.Log &&
		p.Context == q.Context && p.Hidden == q.Hidden && slices.Equal(p.Users, q.Users) && slices.Equal(p.Floors, q.Floors)
}

// parse is of a text that has a policy.
func parse(t *testing.T, s string) api.Policy {
	t.Helper()
	p, n, e := policy.Parse([]byte(s))
	if n != 0 || e != api.OK {
		t.Fatalf("Parse(%q): line %d, error %d", s, n, e)
	}
	return p
}

// refuse is of a text that has none.
func refuse(t *testing.T, s string, line int, want api.Errno) {
	t.Helper()
	p, n, e := policy.Parse([]byte(s))
	if n != line || e != want {
		t.Errorf("Parse(%.200q): line %d, error %d; not %d, %d", s, n, e, line, want)
	}
	if !same(p, api.Policy{}) {
		t.Errorf("Parse(%.200q): %v beside an error", s, p)
	}
}

// P3.1: Parse of a policy.
func TestParse(t *testing.T) {
	if p := parse(t, goodText); !same(p, good()) {
		t.Errorf("%v", p)
	}
	example := parse(t, "levels 2\ncats 0\nlines 9\ncommits 9\nlog 9\ncontext 3\nhidden ...\nuser ann 1 admin")
	want := api.Policy{Levels: 2, Lines: 9, Commits: 9, Log: 9, Context: 3, Hidden: "...", Users: []api.User{{Name: "ann", Clear: api.Label{Level: 1}, Admin: true}}}
	if !same(example, want) {
		t.Errorf("the example: %v", example)
	}
}

// P3.1: the lines may stand in any order, as far as a label has levels and cats ahead of it.
func TestParseInAnyOrder(t *testing.T) {
	p := parse(t, "hidden ...\ncats 2\nlevels 3\nfloor src/ 1\nuser ann 2:0,1 admin\ncontext 3\nfloor src/key 0:1\nlog 9\nuser bob 1\nlines 20\ncommits 5\n")
	if !same(p, good()) {
		t.Errorf("%v", p)
	}
	p = parse(t, head+"user z 1\nuser a 2\nuser m 0\nfloor z 1\nfloor a 2\n")
	if p.Users[0].Name != "z" || p.Users[1].Name != "a" || p.Users[2].Name != "m" || p.Floors[0].Prefix != "z" || p.Floors[1].Prefix != "a" {
		t.Errorf("the order of lines: %v", p)
	}
}

// P3.1: lines that are empty, or begin with #, are none, and the last line may be Bare; but all are counted.
func TestParseWithoutRemarks(t *testing.T) {
	if p := parse(t, "\n\n#\n# levels 9\n"+strings.ReplaceAll(goodText, "\n", "\n#x\n\n")); !same(p, good()) {
		t.Errorf("%v", p)
	}
	if p := parse(t, strings.TrimSuffix(goodText, "\n")); !same(p, good()) {
		t.Errorf("a bare line: %v", p)
	}
	refuse(t, "\n#\n\nx\n"+head, 4, api.ErrForm)
	refuse(t, head+"\n# user\n"+" # user\n", 10, api.ErrForm)
	refuse(t, head+" ", 8, api.ErrForm)
}

// P3.1: a line that is none of these.
func TestParseOtherLines(t *testing.T) {
	for _, s := range []string{
		"x", "level 3", "Levels 3", "LEVELS 3", "user", "floor", "user ann", "floor src/", "user  1", "floor  1", "user ann 1 admin ",
		"user ann 1 Admin", "user ann 1 adm", "user ann 1 ", "user ann  1", "user  ann 1", " user ann 1", "user ann 1 admin admin", "user ann admin",
		"user ann 1 user", "floor src/ 1 admin", "floor src/ 1 ", "floor src/  1", "floor src/", "Floor src/ 1", "user ann 01", "user ann 1:", "user ann 1:1,0",
		"user ann 1:0,0", "user ann ?", "user ann x", "user ann -1", "user ann 1:-1", "user an\tn 1", "user an\x7fn 1", "user \xff 1", "user ann\t1",
		"floor s\x00 1", "user ann 1\r", "floor src/ 1\r", "admin", "\xff\xfe", "\x00", "user " + strings.Repeat("n", 65) + " 1", "floor " + strings.Repeat("n", 65) + " 1",
		"user " + strings.Repeat(" ", 3000), "floor " + strings.Repeat(" ", 3000), "levels", "hidden", "lines ",
	} {
		refuse(t, head+s, 8, api.ErrForm)
		refuse(t, head+s+"\n", 8, api.ErrForm)
		refuse(t, goodText+s+"\nuser\n", 12, api.ErrForm)
	}
	if p := parse(t, head+"user "+strings.Repeat("n", 64)+" 1\nfloor "+strings.Repeat("n", 64)+" 1\nuser ~!# 0\nfloor #~ 0\nuser 1 1\nuser admin 1\nuser user 1\n"); len(p.Users) != 5 || len(p.Floors) != 2 {
		t.Errorf("names: %v", p)
	}
}

// ranges is what the numbers lie between, as the chapter and package api say it.
var ranges = []struct {
	word      string
	low, high int
	of        func(p *api.Policy) *int
}{
	{"levels", 1, 16, func(p *api.Policy) *int { return &p.Levels }},
	{"cats", 0, 64, func(p *api.Policy) *int { return &p.Cats }},
	{"lines", 1, 400, func(p *api.Policy) *int { return &p.Lines }},
	{"commits", 0, 64, func(p *api.Policy) *int { return &p.Commits }},
	{"log", 1, 200, func(p *api.Policy) *int { return &p.Log }},
	{"context", 0, 20, func(p *api.Policy) *int { return &p.Context }},
}

// P3.1: the numbers, and what they lie between.
func TestParseNumbers(t *testing.T) {
	for i, c := range ranges {
		lines := strings.SplitAfter(head, "\n")
		with := func(s string) string {
			lines[i] = c.word + " " + s + "\n"
			return strings.Join(lines, "")
		}
		for _, n := range []int{c.low, c.low + 1, c.high - 1, c.high} {
			p := parse(t, with(strconv.Itoa(n)))
			if *c.of(&p) != n {
				t.Errorf("%s %d: %v", c.word, n, p)
			}
			*c.of(&p) = 0
			q := good()
			q.Users, q.Floors, *c.of(&q) = nil, nil, 0
			if !same(p, q) {
				t.Errorf("%s %d changes more: %v", c.word, n, p)
			}
		}
		for _, s := range []string{
			strconv.Itoa(c.low - 1), strconv.Itoa(c.high + 1), "-1", "", " ", "x", "+1", "01", "1 ", " 1", "1 1", "1.0", "0x1", "1e0", "1\r",
			"2147483647", "2147483648", "4294967297", "18446744073709551617", strings.Repeat("1", 5000), "\xff",
		} {
			refuse(t, with(s), i+1, api.ErrForm)
		}
	}
}

// P3.1: Hidden is all that stands behind one blank.
func TestParseHidden(t *testing.T) {
	const rest = "levels 3\ncats 2\nlines 20\ncommits 5\nlog 9\ncontext 3\n"
	var printed []byte
	for b := byte(32); b < 127; b++ {
		printed = append(printed, b)
	}
	for _, s := range []string{" ", "  ", "x", " x", "x ", "a b  c ", "# x", "hidden x", string(printed), strings.Repeat("x", 200), strings.Repeat(" ", 200)} {
		for _, end := range []string{"", "\n"} {
			if p := parse(t, rest+"hidden "+s+end); p.Hidden != s {
				t.Errorf("Hidden of %q: %q", s, p.Hidden)
			}
		}
	}
	for _, s := range []string{"hidden", "hidden ", "hiddenx", "hidden\tx", "Hidden x", " hidden x", "hidden " + strings.Repeat("x", 201), "hidden " + strings.Repeat(" ", 201)} {
		refuse(t, rest+s, 7, api.ErrForm)
		refuse(t, rest+s+"\n", 7, api.ErrForm)
	}
	for b := range 256 {
		if b != 10 && (b < 32 || b > 126) {
			refuse(t, rest+"hidden a"+string([]byte{byte(b)})+"\n", 7, api.ErrForm)
		}
	}
}

// P3.1: what was said is not said again.
func TestParseSaidTwice(t *testing.T) {
	for i, s := range strings.SplitAfter(head, "\n")[:7] {
		refuse(t, head+s, 8, api.ErrForm)
		refuse(t, s+head, i+2, api.ErrForm)
	}
	refuse(t, head+"levels 4\n", 8, api.ErrForm)
	refuse(t, head+"hidden x\n", 8, api.ErrForm)
	refuse(t, goodText+"user ann 1\n", 12, api.ErrForm)
	refuse(t, goodText+"user bob 1\n", 12, api.ErrForm)
	refuse(t, goodText+"user bob 2 admin\n", 12, api.ErrForm)
	refuse(t, goodText+"floor src/ 1\n", 12, api.ErrForm)
	refuse(t, goodText+"floor src/key 2\n", 12, api.ErrForm)
	p := parse(t, goodText+"user src/ 1\nfloor ann 1\nuser levels 0\nfloor levels 0\nuser Ann 0\nfloor src 0\n")
	if len(p.Users) != 5 || len(p.Floors) != 5 {
		t.Errorf("a user and a floor of one name: %v", p)
	}
}

// P3.1: a user's or a floor's line has levels and cats ahead of it.
func TestParseLabelsTooEarly(t *testing.T) {
	for _, s := range []string{"user ann 0\n", "user ann 0 admin\n", "floor a 0\n"} {
		refuse(t, s+head, 1, api.ErrForm)
		refuse(t, "levels 3\n"+s+strings.TrimPrefix(head, "levels 3\n"), 2, api.ErrForm)
		refuse(t, "cats 2\n"+s+strings.Replace(head, "cats 2\n", "", 1), 2, api.ErrForm)
		parse(t, "cats 2\nlevels 3\n"+s+strings.TrimPrefix(head, "levels 3\ncats 2\n"))
	}
}

// P3.1: a label that does not fit.
func TestParseLabels(t *testing.T) {
	for _, c := range []struct {
		levels, cats, a string
		fits            bool
	}{
		{"1", "0", "0", true}, {"1", "0", "1", false}, {"1", "0", "0:0", false}, {"3", "2", "2:0,1", true}, {"3", "2", "3", false},
		{"3", "2", "2:2", false}, {"3", "2", "0:0,2", false}, {"3", "2", "0:63", false}, {"16", "64", "15:0,63", true}, {"16", "64", "16", false},
		{"16", "63", "15:63", false}, {"16", "63", "15:62", true}, {"16", "64", "15:64", false},
	} {
		rest := "levels " + c.levels + "\ncats " + c.cats + "\nlines 20\ncommits 5\nlog 9\ncontext 3\nhidden ...\n"
		for _, s := range []string{"user ann " + c.a, "user ann " + c.a + " admin", "floor ann " + c.a} {
			if !c.fits {
				refuse(t, rest+s+"\n", 8, api.ErrForm)
				continue
			}
			p := parse(t, rest+s+"\n")
			want, _ := label.Parse(c.a)
			if len(p.Users) == 1 && p.Users[0].Clear != want || len(p.Floors) == 1 && p.Floors[0].Label != want || len(p.Users)+len(p.Floors) != 1 {
				t.Errorf("%s: %v", s, p)
			}
		}
	}
}

// P3.1: one user or one floor too many.
func TestParseTooMany(t *testing.T) {
	var users, floors string
	for i := range 32 {
		users += "user u" + strconv.Itoa(i) + " 0\n"
		floors += "floor f" + strconv.Itoa(i) + " 0\n"
	}
	if p := parse(t, head+users+floors); len(p.Users) != 32 || len(p.Floors) != 32 {
		t.Errorf("32 of each: %d, %d", len(p.Users), len(p.Floors))
	}
	refuse(t, head+users+"user x 0\n"+floors, 40, api.ErrForm)
	refuse(t, head+floors+"floor x 0\n"+users, 40, api.ErrForm)
	refuse(t, head+users+floors+"floor x 0\n", 72, api.ErrForm)
	refuse(t, head+floors+users+"user x 0\n", 72, api.ErrForm)
}

// P3.1: one of the seven first was not said.
func TestParseNotSaid(t *testing.T) {
	for i := range 7 {
		lines := strings.SplitAfter(head, "\n")
		refuse(t, strings.Join(slices.Delete(lines, i, i+1), ""), 0, api.ErrForm)
		if i > 1 {
			lines = strings.SplitAfter(goodText, "\n")
			refuse(t, strings.Join(slices.Delete(lines, i, i+1), ""), 0, api.ErrForm)
		}
	}
	refuse(t, "", 0, api.ErrForm)
	refuse(t, "\n", 0, api.ErrForm)
	refuse(t, "# levels 3", 0, api.ErrForm)
	refuse(t, "cats 1\n", 0, api.ErrForm)
	if p, n, e := policy.Parse(nil); !same(p, api.Policy{}) || n != 0 || e != api.ErrForm {
		t.Errorf("of nil: %v, %d, %d", p, n, e)
	}
}

// P3.1: more bytes than may be, whatever they say.
func TestParseTooLong(t *testing.T) {
	fill := func(s string, n int) string {
		return s + strings.Repeat("#", n-len(s))
	}
	parse(t, fill(head, 8192))
	refuse(t, fill(head, 8193), 0, api.ErrLimit)
	refuse(t, fill("x\n", 8192), 1, api.ErrForm)
	refuse(t, fill("x\n", 8193), 0, api.ErrLimit)
	refuse(t, strings.Repeat("\n", 8193), 0, api.ErrLimit)
	refuse(t, strings.Repeat("\n", 8192), 0, api.ErrForm)
	refuse(t, strings.Repeat("\n", 8191)+"x", 8192, api.ErrForm)
}

// P3.1, P2: the first line that has a fault is told, whatever follows, or lacks.
func TestParseFirstFault(t *testing.T) {
	refuse(t, "x\ny\n", 1, api.ErrForm)
	refuse(t, "levels 3\nlevels 0\nx\n", 2, api.ErrForm)
	refuse(t, "levels 3\nuser ann 9\n", 2, api.ErrForm)
	refuse(t, head+"user ann 1\nfloor a 9\nuser ann 1\n", 9, api.ErrForm)
}

// P3.2: Check of the numbers.
func TestCheckNumbers(t *testing.T) {
	for _, c := range ranges {
		for _, n := range []int{math.MinInt, -1, c.low - 1, c.low, c.low + 1, c.high - 1, c.high, c.high + 1, math.MaxInt32, math.MaxInt} {
			p := good()
			p.Users, p.Floors = nil, nil
			*c.of(&p) = n
			want := api.OK
			if n < c.low || n > c.high {
				want = api.ErrArg
			}
			if e := policy.Check(p); e != want {
				t.Errorf("%s %d: %d", c.word, n, e)
			}
			if b, e := policy.Print(p); e != want || (len(b) > 0) != (want == api.OK) {
				t.Errorf("Print, %s %d: %q, %d", c.word, n, b, e)
			}
		}
	}
}

// P3.2: Check of all that is no number.
func TestCheck(t *testing.T) {
	many := func(n int) (users []api.User, floors []api.Floor) {
		for i := range n {
			users = append(users, api.User{Name: strconv.Itoa(i)})
			floors = append(floors, api.Floor{Prefix: strconv.Itoa(i)})
		}
		return users, floors
	}
	u32, f32 := many(32)
	u33, f33 := many(33)
	long := strings.Repeat("n", 65)
	for _, c := range []struct {
		what   string
		change func(p *api.Policy)
		want   api.Errno
	}{
		{"as it is", func(p *api.Policy) {}, api.OK},
		{"no users, no floors", func(p *api.Policy) { p.Users, p.Floors = nil, nil }, api.OK},
		{"Hidden of none", func(p *api.Policy) { p.Hidden = "" }, api.ErrArg},
		{"Hidden of a blank", func(p *api.Policy) { p.Hidden = " " }, api.OK},
		{"Hidden of 200", func(p *api.Policy) { p.Hidden = strings.Repeat("~", 200) }, api.OK},
		{"Hidden of 201", func(p *api.Policy) { p.Hidden = strings.Repeat("~", 201) }, api.ErrArg},
		{"Hidden with 31", func(p *api.Policy) { p.Hidden = "a\x1f" }, api.ErrArg},
		{"Hidden with 127", func(p *api.Policy) { p.Hidden = "\x7fa" }, api.ErrArg},
		{"Hidden with 10", func(p *api.Policy) { p.Hidden = "a\nb" }, api.ErrArg},
		{"Hidden beyond ASCII", func(p *api.Policy) { p.Hidden = "\u00e4" }, api.ErrArg},
		{"32 users", func(p *api.Policy) { p.Users = u32 }, api.OK},
		{"33 users", func(p *api.Policy) { p.Users = u33 }, api.ErrArg},
		{"32 floors", func(p *api.Policy) { p.Floors = f32 }, api.OK},
		{"33 floors", func(p *api.Policy) { p.Floors = f33 }, api.ErrArg},
		{"a million users", func(p *api.Policy) { p.Users = make([]api.User, 1000000) }, api.ErrArg},
		{"a million floors", func(p *api.Policy) { p.Floors = make([]api.Floor, 1000000) }, api.ErrArg},
		{"a user without a name", func(p *api.Policy) { p.Users[0].Name = "" }, api.ErrArg},
		{"a user of two words", func(p *api.Policy) { p.Users[0].Name = "a b" }, api.ErrArg},
		{"a user of a long name", func(p *api.Policy) { p.Users[1].Name = long[:64] }, api.OK},
		{"a user of too long a name", func(p *api.Policy) { p.Users[1].Name = long }, api.ErrArg},
		{"two users alike", func(p *api.Policy) { p.Users[1].Name = "ann" }, api.ErrArg},
		{"a floor without a prefix", func(p *api.Policy) { p.Floors[0].Prefix = "" }, api.ErrArg},
		{"a floor of two lines", func(p *api.Policy) { p.Floors[0].Prefix = "a\nb" }, api.ErrArg},
		{"a floor of too long a prefix", func(p *api.Policy) { p.Floors[1].Prefix = long }, api.ErrArg},
		{"two floors alike", func(p *api.Policy) { p.Floors[0].Prefix = "src/key" }, api.ErrArg},
		{"a user and a floor alike", func(p *api.Policy) { p.Floors[0].Prefix = "ann" }, api.OK},
		{"a user of a high level", func(p *api.Policy) { p.Users[1].Clear.Level = 3 }, api.ErrArg},
		{"a user of a level below 0", func(p *api.Policy) { p.Users[1].Clear.Level = -1 }, api.ErrArg},
		{"a user of a category too many", func(p *api.Policy) { p.Users[1].Clear.Cats = 4 }, api.ErrArg},
		{"a floor of a high level", func(p *api.Policy) { p.Floors[1].Label.Level = 3 }, api.ErrArg},
		{"a floor of a level below 0", func(p *api.Policy) { p.Floors[1].Label.Level = -1 }, api.ErrArg},
		{"a floor of a category too many", func(p *api.Policy) { p.Floors[1].Label.Cats = 4 }, api.ErrArg},
		{"all labels", func(p *api.Policy) {
			p.Levels, p.Cats, p.Users[0].Clear, p.Floors[0].Label = 16, 64, label.Top(), label.Top()
		}, api.OK},
		{"nothing", func(p *api.Policy) { *p = api.Policy{} }, api.ErrArg},
	} {
		p := good()
		c.change(&p)
		if e := policy.Check(p); e != c.want {
			t.Errorf("%s: %d", c.what, e)
		}
		if b, e := policy.Print(p); e != c.want || e != api.OK && len(b) > 0 {
			t.Errorf("Print, %s: %q, %d", c.what, b, e)
		}
	}
}

// P3.2: Print.
func TestPrint(t *testing.T) {
	if b, e := policy.Print(good()); string(b) != goodText || e != api.OK {
		t.Errorf("%q, %d", b, e)
	}
	p := good()
	p.Users, p.Floors, p.Hidden = nil, nil, "  x "
	if b, e := policy.Print(p); string(b) != strings.Replace(head, "...", "  x ", 1) || e != api.OK {
		t.Errorf("%q, %d", b, e)
	}
}

// P3.2: Print of more bytes than may be, and of just as many.
func TestPrintTooLong(t *testing.T) {
	p := most(31, 64)
	b, e := policy.Print(p)
	if e != api.OK {
		t.Fatalf("error %d", e)
	}
	room := 8192 - len(b)
	for more := range 3 {
		p = most(31, 64)
		p.Hidden += strings.Repeat("x", 150)
		cut := 150 - room - more + 1
		for i := 0; cut > 0; i++ {
			n := min(cut, 50)
			p.Users[i].Name = p.Users[i].Name[n:]
			cut -= n
		}
		b, e = policy.Print(p)
		if policy.Check(p) != api.OK || more < 2 && (e != api.OK || len(b) != 8191+more) || more == 2 && (e != api.ErrLimit || len(b) > 0) {
			t.Errorf("%d bytes: %d, error %d", 8191+more, len(b), e)
		}
		if more < 2 && !same(parse(t, string(b)), p) {
			t.Errorf("%d bytes are parsed otherwise", 8191+more)
		}
	}
	p = most(32, 64)
	p.Floors = []api.Floor{{Prefix: strings.Repeat("f", 64), Label: label.Top()}, {Prefix: strings.Repeat("g", 64), Label: label.Top()}}
	if b, e := policy.Print(p); e != api.ErrLimit || len(b) > 0 {
		t.Errorf("%d bytes, error %d", len(b), e)
	}
	p.Floors[0].Label.Level = 16
	if _, e := policy.Print(p); e != api.ErrArg {
		t.Errorf("Check's error comes first: %d", e)
	}
}

// P3.3, P1, P5: Fits, at numbers of any size.
func TestFits(t *testing.T) {
	for _, c := range []struct {
		levels, cats int
		a            api.Label
		want         bool
	}{
		{3, 2, api.Label{}, true}, {3, 2, api.Label{Level: 2, Cats: 3}, true}, {3, 2, api.Label{Level: 3}, false}, {3, 2, api.Label{Cats: 4}, false},
		{3, 2, api.Label{Cats: 5}, false}, {3, 2, api.Label{Level: -1}, false}, {3, 0, api.Label{}, true}, {3, 0, api.Label{Cats: 1}, false},
		{3, -1, api.Label{}, false}, {3, math.MinInt, api.Label{}, false}, {3, 63, api.Label{Cats: 1 << 63}, false}, {3, 63, api.Label{Cats: 1 << 62}, true},
		{3, 64, api.Label{Cats: allCats}, true}, {3, 65, api.Label{Cats: allCats}, true}, {3, math.MaxInt, api.Label{Cats: allCats}, true},
		{3, 1 << 32, api.Label{Cats: allCats}, true},
		{0, 2, api.Label{}, false}, {-1, 2, api.Label{}, false}, {-1, 2, api.Label{Level: -2}, false}, {math.MinInt, 2, api.Label{Level: math.MaxInt}, false},
		{math.MinInt, 2, api.Label{}, false}, {math.MaxInt, 2, api.Label{Level: math.MaxInt - 1}, true}, {math.MaxInt, 2, api.Label{Level: math.MaxInt}, false},
		{3, 2, api.Label{Level: math.MinInt}, false}, {1, 0, api.Label{}, true}, {1, 0, api.Label{Level: 1}, false},
	} {
		if got := policy.Fits(api.Policy{Levels: c.levels, Cats: c.cats}, c.a); got != c.want {
			t.Errorf("levels %d, cats %d, %v: %v", c.levels, c.cats, c.a, got)
		}
	}
	for cats := range 65 {
		for c := range 64 {
			if got := policy.Fits(api.Policy{Levels: 1, Cats: cats}, api.Label{Cats: 1 << c}); got != (c < cats) {
				t.Errorf("category %d of %d: %v", c, cats, got)
			}
		}
	}
}

// P3.3: Floor.
func TestFloor(t *testing.T) {
	p := good()
	p.Floors = append(p.Floors, api.Floor{Prefix: "s", Label: api.Label{Cats: 1}})
	for _, c := range []struct {
		name string
		want api.Label
	}{
		{"", api.Label{}}, {"x", api.Label{}}, {"xs", api.Label{}}, {"s", api.Label{Cats: 1}}, {"src", api.Label{Cats: 1}}, {"src/", api.Label{Level: 1, Cats: 1}},
		{"src/a", api.Label{Level: 1, Cats: 1}}, {"src/key", api.Label{Level: 1, Cats: 3}}, {"src/keys", api.Label{Level: 1, Cats: 3}}, {"src/ke", api.Label{Level: 1, Cats: 1}},
		{"SRC/", api.Label{}}, {"\xff", api.Label{}},
	} {
		if got := policy.Floor(p, c.name); got != c.want {
			t.Errorf("Floor of %q: %v", c.name, got)
		}
	}
	if got := policy.Floor(api.Policy{}, "x"); got != (api.Label{}) {
		t.Errorf("Floor of none: %v", got)
	}
	wild := api.Policy{Floors: []api.Floor{{Prefix: "", Label: api.Label{Level: -5, Cats: 8}}, {Prefix: "x", Label: api.Label{Level: math.MaxInt}}}}
	if got := policy.Floor(wild, ""); got != (api.Label{Cats: 8}) {
		t.Errorf("the join with the bottom: %v", got)
	}
	if got := policy.Floor(wild, "x"); got != (api.Label{Level: math.MaxInt, Cats: 8}) {
		t.Errorf("the join of any labels: %v", got)
	}
}

// P3.3, P6: Find.
func TestFind(t *testing.T) {
	p := good()
	for _, c := range []struct {
		name string
		want api.User
		is   bool
	}{
		{"ann", p.Users[0], true}, {"bob", p.Users[1], true}, {"an", api.User{}, false}, {"annx", api.User{}, false}, {"Ann", api.User{}, false}, {"", api.User{}, false}, {"src/", api.User{}, false},
	} {
		if got, is := policy.Find(p, c.name); got != c.want || is != c.is {
			t.Errorf("Find of %q: %v, %v", c.name, got, is)
		}
	}
	p.Users = []api.User{{Name: "x"}, {Name: "", Clear: api.Label{Level: 1}}, {Name: "", Clear: api.Label{Level: 2}}, {Name: "x", Admin: true}}
	if got, is := policy.Find(p, ""); got != p.Users[1] || !is {
		t.Errorf("the first of two: %v, %v", got, is)
	}
	if got, is := policy.Find(p, "x"); got != p.Users[0] || !is {
		t.Errorf("the first of two: %v, %v", got, is)
	}
	if got, is := policy.Find(api.Policy{}, ""); got != (api.User{}) || is {
		t.Errorf("of no users: %v, %v", got, is)
	}
}

// P3.4: Parse of Print is the policy; what was parsed is printed as the lines say, and then always so.
func TestParseOfPrint(t *testing.T) {
	all := []api.Policy{good(), most(31, 64), most(0, 64), most(32, 40)}
	for _, c := range ranges {
		for _, n := range []int{c.low, c.high} {
			p := good()
			p.Users, p.Floors = nil, nil
			*c.of(&p) = n
			all = append(all, p)
		}
	}
	for _, s := range []string{" ", "  ", "# x", "hidden x", "x\\n", "@@ end", strings.Repeat(" ", 200)} {
		p := good()
		p.Hidden = s
		all = append(all, p)
	}
	for _, p := range all {
		b, e := policy.Print(p)
		if e != api.OK {
			t.Fatalf("%v: error %d", p, e)
		}
		if q := parse(t, string(b)); !same(p, q) {
			t.Errorf("%v is parsed as %v", p, q)
		}
	}
	p := parse(t, "# x\n\ncats 2\nlevels 3\nfloor src/ 1\nuser ann 2:0,1 admin\nfloor src/key 0:1\nlines 20\nhidden ...\nlog 9\ncommits 5\ncontext 3\nuser bob 1")
	if b, e := policy.Print(p); string(b) != goodText || e != api.OK {
		t.Errorf("%q, %d", b, e)
	}
}

// P3.5: a file's floor lies below that of each file whose name begins with its name.
func TestFloorRises(t *testing.T) {
	p := good()
	p.Floors = append(p.Floors, api.Floor{Prefix: "s", Label: api.Label{Cats: 1}}, api.Floor{Prefix: "src/key/a", Label: api.Label{Level: 2}}, api.Floor{Prefix: "t", Label: api.Label{Level: 2}})
	for _, name := range []string{"src/key/a.go", "src/keys", "t/x", "x"} {
		for i := range len(name) {
			for k := range i {
				if !label.Below(policy.Floor(p, name[:k]), policy.Floor(p, name[:i])) {
					t.Errorf("Floor of %q is not below that of %q", name[:k], name[:i])
				}
			}
		}
	}
}

// P3: what is handed in stays as it is, spare room too.
func TestArgumentsStay(t *testing.T) {
	room := []byte(goodText + "spare")
	b := room[:len(goodText)]
	if _, _, e := policy.Parse(b); e != api.OK || string(room) != goodText+"spare" {
		t.Errorf("Parse left %q", room)
	}
	p := good()
	p.Users = append(p.Users, api.User{Name: "spare"})[:2]
	p.Floors = append(p.Floors, api.Floor{Prefix: "spare"})[:2]
	policy.Check(p)
	policy.Print(p)
	policy.Fits(p, api.Label{Level: 1})
	policy.Floor(p, "src/keys")
	policy.Find(p, "bob")
	if !same(p, good()) || p.Users[:3][2].Name != "spare" || p.Floors[:3][2].Prefix != "spare" {
		t.Errorf("left: %v", p)
	}
}

// P3, P6: what is handed in is not kept, and what is answered is new.
func TestAnswersAreNew(t *testing.T) {
	b := []byte(goodText)
	p, _, _ := policy.Parse(b)
	for i := range b {
		b[i] = 'x'
	}
	if !same(p, good()) {
		t.Errorf("Parse kept what was handed in: %v", p)
	}
	q := parse(t, goodText)
	p.Users[0].Name, p.Floors[0].Prefix = "changed", "changed"
	if !same(q, good()) {
		t.Errorf("two policies share lists: %v", q)
	}
	one, _ := policy.Print(q)
	two, _ := policy.Print(q)
	one[0] = 'x'
	if string(two) != goodText || !same(q, good()) {
		t.Errorf("Print: %q", two)
	}
}

// P1, P2, P3.4, P3.6, P6: any text is answered, twice the same; what is told is right, and printed and parsed as it was.
func FuzzParse(f *testing.F) {
	f.Add([]byte(goodText))
	f.Add([]byte(head))
	f.Add([]byte(head + "user ann 9\nuser ann 1"))
	f.Add([]byte("levels 1\ncats 0\n#\n\nuser # 0 admin\nhidden \x00"))
	f.Add([]byte{})
	f.Fuzz(func(t *testing.T, b []byte) {
		was := bytes.Clone(b)
		p, n, e := policy.Parse(b)
		q, m, again := policy.Parse(b)
		if !same(p, q) || n != m || e != again || !bytes.Equal(b, was) {
			t.Errorf("%q: %v, %d, %d, and then %v, %d, %d", was, p, n, e, q, m, again)
		}
		if e != api.OK {
			if !same(p, api.Policy{}) || e == api.ErrLimit != (len(b) > api.MaxPolicy) || e == api.ErrLimit && n != 0 {
				t.Errorf("%q: %v, %d, %d", b, p, n, e)
			}
			return
		}
		s, e := policy.Print(p)
		if e == api.ErrLimit && len(b) == api.MaxPolicy {
			return // a Bare last line gets a newline, for which there is no room
		}
		if n != 0 || policy.Check(p) != api.OK || e != api.OK || len(s) > len(b)+1 {
			t.Fatalf("%q: %d, %v, %q, %d", b, n, p, s, e)
		}
		if r, _, e := policy.Parse(s); e != api.OK || !same(p, r) {
			t.Errorf("%q: %v, and then %v", b, p, r)
		}
	})
}
