// Package text is layer 1: see shared/doc/01-text.md.
package text

import (
	"strconv"

	"jalousie/api"
)

const (
	newline = 10
	blank   = 32
	// What a name's bytes lie between: all that is printed and seen.
	firstOfName = 33
	lastOfName  = 126
	// What stands for a number that has no text.
	untold = "?"
)

// Lines is the lines of bytes.
func Lines(b []byte) []api.Line {
	var l []api.Line
	from := 0
parts:
	for {
		for end := from; ; end++ {
			if end == len(b) {
				break parts
			}
			if b[end] == newline {
				l = append(l, api.Line{Text: cut(b, from, end)})
				from = end + 1
				continue parts
			}
		}
	}
	if from < len(b) {
		l = append(l, api.Line{Text: cut(b, from, len(b)), Bare: true})
	}
	return l
}

// cut copies: what is answered may not lie in what was handed in.
func cut(b []byte, from, end int) string {
	return string(b[from:end:end])
}

// Join is the bytes of lines.
func Join(l []api.Line) []byte {
	var b []byte
	for i, line := range l {
		b = append(b, line.Text...)
		if !line.Bare || i < len(l)-1 {
			b = append(b, newline)
		}
	}
	return b
}

// Right: may lines be those of bytes?
func Right(l []api.Line) bool {
	for i, line := range l {
		if has(line.Text, newline) {
			return false
		}
		if line.Bare && (i < len(l)-1 || line.Text == "") {
			return false
		}
	}
	return true
}

// has goes by bytes, since a text need not be UTF-8.
func has(s string, b byte) bool {
	for i := range len(s) {
		if s[i] == b {
			return true
		}
	}
	return false
}

// Words is the parts of a text between blanks.
func Words(s string) []string {
	b := []byte(s)
	var words []string
	from := 0
	for i := range len(b) {
		if b[i] == blank {
			words = append(words, cut(b, from, i))
			from = i + 1
		}
	}
	return append(words, cut(b, from, len(b)))
}

// Number is a text's number.
func Number(s string) (int, bool) {
	if s == "" || s[0] == '0' && len(s) > 1 {
		return 0, false
	}
	n := 0
	for i := range len(s) {
		if s[i] < '0' || s[i] > '9' {
			return 0, false
		}
		digit := int(s[i] - '0')
		// Asked ahead of reckoning, so that n never goes round, however long s is.
		if n > (api.MaxNum-digit)/10 {
			return 0, false
		}
		n = 10*n + digit
	}
	return n, true
}

// Decimal is a number's text.
func Decimal(n int) string {
	if n < 0 || n > api.MaxNum {
		return untold
	}
	return strconv.Itoa(n)
}

// Name: may a text be a name?
func Name(s string) bool {
	if len(s) < 1 || len(s) > api.MaxName {
		return false
	}
	for i := range len(s) {
		if s[i] < firstOfName || s[i] > lastOfName {
			return false
		}
	}
	return true
}
