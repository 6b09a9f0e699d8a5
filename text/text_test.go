package text_test

import (
	"bytes"
	"math"
	"slices"
	"strconv"
	"strings"
	"testing"

	"jalousie/api"
	"jalousie/text"
)

// row is lines that all end with a newline.
func row(texts ...string) []api.Line {
	var l []api.Line
	for _, s := range texts {
		l = append(l, api.Line{Text: s})
	}
	return l
}

// bare is lines of which the last one alone is Bare.
func bare(texts ...string) []api.Line {
	l := row(texts...)
	l[len(l)-1].Bare = true
	return l
}

// every is all texts of up to n letters of an alphabet.
func every(alphabet string, n int) []string {
	all := []string{""}
	last := all
	for range n {
		var next []string
		for _, s := range last {
			for i := range len(alphabet) {
				next = append(next, s+alphabet[i:i+1])
			}
		}
		all = append(all, next...)
		last = next
	}
	return all
}

// everyLines is all lists of up to three lines of a few texts, each Bare or not.
func everyLines() [][]api.Line {
	var some []api.Line
	for _, s := range []string{"", "a", "\n", "a\nb", "\xff\x00"} {
		some = append(some, api.Line{Text: s}, api.Line{Text: s, Bare: true})
	}
	all := [][]api.Line{nil}
	last := all
	for range 3 {
		var next [][]api.Line
		for _, l := range last {
			for _, x := range some {
				next = append(next, append(slices.Clone(l), x))
			}
		}
		all = append(all, next...)
		last = next
	}
	return all
}

// P1.1: Lines.
func TestLines(t *testing.T) {
	for _, c := range []struct {
		b    string
		want []api.Line
	}{
		{"", nil},
		{"\n", row("")},
		{"\n\n", row("", "")},
		{"a", bare("a")},
		{"a\n", row("a")},
		{"a\nb", bare("a", "b")},
		{"a\nb\n", row("a", "b")},
		{"\na", bare("", "a")},
		{"a\n\nb\n", row("a", "", "b")},
		{" \r\n\t", bare(" \r", "\t")},
		{"\x00\xff\n\xc3", bare("\x00\xff", "\xc3")},
		{"\u010a\n", row("\u010a")},
	} {
		if got := text.Lines([]byte(c.b)); !slices.Equal(got, c.want) {
			t.Errorf("Lines(%q) = %v, want %v", c.b, got, c.want)
		}
	}
	if got := text.Lines(nil); len(got) != 0 {
		t.Errorf("Lines(nil) = %v", got)
	}
}

// P1.1: Join.
func TestJoin(t *testing.T) {
	for _, c := range []struct {
		l    []api.Line
		want string
	}{
		{nil, ""},
		{[]api.Line{}, ""},
		{row(""), "\n"},
		{row("a", "b"), "a\nb\n"},
		{bare("a", "b"), "a\nb"},
		{bare(""), ""},
		{bare("a", ""), "a\n"},
		{[]api.Line{{Text: "a", Bare: true}, {Text: "b"}}, "a\nb\n"},
		{[]api.Line{{Text: "a", Bare: true}, {Text: "b", Bare: true}}, "a\nb"},
		{row("a\nb"), "a\nb\n"},
		{row("\xff"), "\xff\n"},
	} {
		if got := text.Join(c.l); string(got) != c.want {
			t.Errorf("Join(%v) = %q, want %q", c.l, got, c.want)
		}
	}
}

// P1.1: Right.
func TestRight(t *testing.T) {
	for _, c := range []struct {
		l    []api.Line
		want bool
	}{
		{nil, true},
		{[]api.Line{}, true},
		{row(""), true},
		{row("a", "", "b"), true},
		{bare("a"), true},
		{bare("", "a"), true},
		{bare(""), false},
		{bare("a", ""), false},
		{[]api.Line{{Text: "a", Bare: true}, {Text: "b"}}, false},
		{[]api.Line{{Text: "a", Bare: true}, {Text: "b", Bare: true}}, false},
		{row("a\n"), false},
		{row("\na"), false},
		{row("\n", "a"), false},
		{bare("a", "b\n"), false},
		{row("\u010a\xff\x00"), true},
	} {
		if got := text.Right(c.l); got != c.want {
			t.Errorf("Right(%v) = %v, want %v", c.l, got, c.want)
		}
	}
}

// P1.2: Words.
func TestWords(t *testing.T) {
	for _, c := range []struct {
		s    string
		want []string
	}{
		{"", []string{""}},
		{" ", []string{"", ""}},
		{"a", []string{"a"}},
		{"a b", []string{"a", "b"}},
		{"a  b", []string{"a", "", "b"}},
		{" a ", []string{"", "a", ""}},
		{"a\tb\nc\u00a0d", []string{"a\tb\nc\u00a0d"}},
		{"\xff \x00", []string{"\xff", "\x00"}},
	} {
		if got := text.Words(c.s); !slices.Equal(got, c.want) {
			t.Errorf("Words(%q) = %q, want %q", c.s, got, c.want)
		}
	}
}

// P1.2: Number of what is one.
func TestNumber(t *testing.T) {
	for _, c := range []struct {
		s    string
		want int
	}{
		{"0", 0}, {"1", 1}, {"9", 9}, {"10", 10}, {"99", 99}, {"100", 100},
		{"2147483639", api.MaxNum - 8}, {"2147483640", api.MaxNum - 7}, {"2147483647", api.MaxNum},
	} {
		if n, is := text.Number(c.s); !is || n != c.want {
			t.Errorf("Number(%q) = %d, %v", c.s, n, is)
		}
	}
}

// P1.2, P2, P5: Number of what is none.
func TestNumberOfOthers(t *testing.T) {
	for _, s := range []string{
		"", "00", "01", "012", "-1", "-0", "+1", " 1", "1 ", "1\n", "x", "1x", "x1", "1_0", "0x1", "1.0", "1e3",
		"/", ":", "1/", "1:", "\x00", "\xff", "\u0661", "\uff11",
		"2147483648", "2147483650", "3000000000", "9999999999", "10000000000", "21474836470",
		"4294967295", "4294967296", "4294967297", "9223372036854775807", "9223372036854775808",
		"18446744073709551616", "18446744073709551617",
		strings.Repeat("9", 100000), strings.Repeat("0", 100000), "1" + strings.Repeat("0", 100000),
	} {
		if n, is := text.Number(s); is || n != 0 {
			t.Errorf("Number(%.30q) = %d, %v", s, n, is)
		}
	}
}

// P1.2, P5: Decimal.
func TestDecimal(t *testing.T) {
	for _, c := range []struct {
		n    int
		want string
	}{
		{0, "0"}, {7, "7"}, {10, "10"}, {1234567890, "1234567890"}, {api.MaxNum, "2147483647"},
		{-1, "?"}, {math.MinInt, "?"}, {math.MinInt32, "?"},
	} {
		if got := text.Decimal(c.n); got != c.want {
			t.Errorf("Decimal(%d) = %q, want %q", c.n, got, c.want)
		}
	}
	if math.MaxInt > api.MaxNum {
		above := api.MaxNum
		for _, n := range []int{above + 1, math.MaxInt - 1, math.MaxInt} {
			if got := text.Decimal(n); got != "?" {
				t.Errorf("Decimal(%d) = %q", n, got)
			}
		}
	}
}

// P1.2: Name.
func TestName(t *testing.T) {
	for _, s := range []string{"a", "!", "~", "a-b", "a/b.c", "#", "@@", strings.Repeat("n", api.MaxName)} {
		if !text.Name(s) {
			t.Errorf("Name(%q) = false", s)
		}
	}
	for _, s := range []string{"", " ", "a b", "a ", " a", "a\n", "\x00", "\x7f", "\x1f", "\x80", "\xff", "a\xff", "\u00e9", strings.Repeat("n", api.MaxName+1)} {
		if text.Name(s) {
			t.Errorf("Name(%q) = true", s)
		}
	}
	for c := range 256 {
		if got, want := text.Name(string([]byte{'a', byte(c)})), c >= 33 && c <= 126; got != want {
			t.Errorf("Name of the byte %d: %v", c, got)
		}
	}
}

// P1.3: Join of Lines is the bytes, and what Lines tells is right.
func TestJoinOfLines(t *testing.T) {
	for _, s := range every("a\n\xff ", 5) {
		l := text.Lines([]byte(s))
		if got := text.Join(l); string(got) != s {
			t.Errorf("Join of Lines(%q) = %q", s, got)
		}
		if !text.Right(l) {
			t.Errorf("Lines(%q) = %v is not right", s, l)
		}
	}
}

// P1.3: Lines of Join are the lines, if they are right, and only then.
func TestLinesOfJoin(t *testing.T) {
	for _, l := range everyLines() {
		same := slices.Equal(text.Lines(text.Join(l)), l)
		if right := text.Right(l); right != same {
			t.Errorf("Right(%v) = %v, but Lines of Join being the same: %v", l, right, same)
		}
	}
}

// P1.4: Number of Decimal is the number.
func TestNumberOfDecimal(t *testing.T) {
	ns := []int{api.MaxNum, api.MaxNum - 1}
	for n := range 1200 {
		ns = append(ns, n)
	}
	for n := 1; n < api.MaxNum/10; n *= 10 {
		ns = append(ns, n, 10*n-1, 10*n, 10*n+1)
	}
	for _, want := range ns {
		if n, is := text.Number(text.Decimal(want)); !is || n != want {
			t.Errorf("Number of Decimal(%d) = %d, %v", want, n, is)
		}
	}
	if n, is := text.Number(text.Decimal(-1)); is || n != 0 {
		t.Errorf("Number of Decimal(-1) = %d, %v", n, is)
	}
}

// P1.4: Decimal of a Number is the text.
func TestDecimalOfNumber(t *testing.T) {
	for _, s := range every("019-x", 5) {
		n, is := text.Number(s)
		if is && text.Decimal(n) != s {
			t.Errorf("Decimal of Number(%q) = %q", s, text.Decimal(n))
		}
		plain, err := strconv.Atoi(s)
		if want := err == nil && plain >= 0 && strconv.Itoa(plain) == s; is != want {
			t.Errorf("Number(%q) = %d, %v", s, n, is)
		}
	}
}

// P1.5: the words, with a blank between each two, are the text.
func TestWordsJoined(t *testing.T) {
	for _, s := range every(" a\xff", 6) {
		words := text.Words(s)
		if got := strings.Join(words, " "); got != s {
			t.Errorf("Words(%q) = %q", s, words)
		}
		if len(words) != strings.Count(s, " ")+1 {
			t.Errorf("Words(%q) are %d", s, len(words))
		}
		for _, w := range words {
			if strings.Contains(w, " ") {
				t.Errorf("Words(%q) has %q", s, w)
			}
		}
	}
}

// P3: what is handed in stays as it is, spare room too.
func TestArgumentsStay(t *testing.T) {
	b := []byte("a\nb\nspare")
	text.Lines(b[:3])
	if string(b) != "a\nb\nspare" {
		t.Errorf("Lines left %q", b)
	}
	l := append(bare("a", "b"), row("spare", "room")...)
	was := slices.Clone(l)
	text.Join(l[:2])
	text.Right(l[:2])
	if !slices.Equal(l, was) {
		t.Errorf("Join and Right left %v", l)
	}
}

// P3: what is answered lies in nothing that was handed in, or answered.
func TestAnswersAreNew(t *testing.T) {
	b := []byte("a\nb")
	first := text.Lines(b)
	second := text.Lines(b)
	b[0], b[2] = 'x', 'y'
	first[0] = api.Line{Text: "other"}
	if first[1].Text != "b" || !slices.Equal(second, bare("a", "b")) {
		t.Errorf("Lines: %v, %v", first, second)
	}
	l := row("a")
	one, two := text.Join(l), text.Join(l)
	one[0] = 'x'
	if l[0].Text != "a" || !bytes.Equal(two, []byte("a\n")) {
		t.Errorf("Join: %v, %q", l, two)
	}
	v, w := text.Words("a b"), text.Words("a b")
	v[0] = "x"
	if !slices.Equal(w, []string{"a", "b"}) {
		t.Errorf("Words: %q", w)
	}
}

// P1, P6: any bytes are answered, twice the same.
func FuzzBytes(f *testing.F) {
	for _, s := range []string{"", "\n", "a\nb", "012", "2147483648", "a  b", "\xff\x00"} {
		f.Add([]byte(s))
	}
	f.Fuzz(func(t *testing.T, b []byte) {
		s := string(b)
		l := text.Lines(b)
		if !text.Right(l) || string(text.Join(l)) != s || !slices.Equal(l, text.Lines(b)) {
			t.Errorf("lines of %q: %v", s, l)
		}
		if strings.Join(text.Words(s), " ") != s {
			t.Errorf("words of %q: %q", s, text.Words(s))
		}
		n, is := text.Number(s)
		if is && text.Decimal(n) != s || !is && n != 0 {
			t.Errorf("number of %q: %d, %v", s, n, is)
		}
		if text.Name(s) && (len(text.Words(s)) != 1 || len(s) > api.MaxName) {
			t.Errorf("name %q", s)
		}
	})
}
