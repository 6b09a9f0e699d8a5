// Package label is layer 2: see shared/doc/02-label.md.
package label

import (
	"strings"

	"jalousie/api"
	"jalousie/text"
)

const (
	beforeCats  = ":"
	betweenCats = ","
)

// Right: may a label be?
func Right(a api.Label) bool {
	return a.Level >= 0 && a.Level <= api.MaxLevel
}

// Below: may whoever reads the second label read the first?
func Below(a, b api.Label) bool {
	// Join is the least label above both: that is b itself just if a adds nothing to it.
	return Join(a, b) == b
}

// Join is the least label above both.
func Join(a, b api.Label) api.Label {
	return api.Label{Level: max(a.Level, b.Level), Cats: a.Cats | b.Cats}
}

// Meet is the greatest label below both.
func Meet(a, b api.Label) api.Label {
	return api.Label{Level: min(a.Level, b.Level), Cats: a.Cats & b.Cats}
}

// Top is above all labels.
func Top() api.Label {
	a := api.Label{Level: api.MaxLevel}
	for c := range api.MaxCat + 1 {
		a.Cats |= bit(c)
	}
	return a
}

// bit is asked only for categories from 0 to MaxCat: a shift by less than 0 would panic.
func bit(c int) uint64 {
	return 1 << c
}

// Cats is the numbers of a label's categories.
func Cats(a api.Label) []int {
	var cats []int
	for c := range api.MaxCat + 1 {
		if a.Cats&bit(c) != 0 {
			cats = append(cats, c)
		}
	}
	return cats
}

// Of is a label.
func Of(level int, cats ...int) (api.Label, api.Errno) {
	a := api.Label{Level: level}
	if !Right(a) {
		return api.Label{}, api.ErrArg
	}
	for _, c := range cats {
		if c < 0 || c > api.MaxCat {
			return api.Label{}, api.ErrArg
		}
		a.Cats |= bit(c)
	}
	return a, api.OK
}

// Print is a label's text.
func Print(a api.Label) string {
	var words []string
	for _, c := range Cats(a) {
		words = append(words, text.Decimal(c))
	}
	level := text.Decimal(a.Level)
	if len(words) == 0 {
		return level
	}
	return level + beforeCats + strings.Join(words, betweenCats)
}

// Parse is a text's label.
func Parse(s string) (api.Label, bool) {
	head, rest, some := strings.Cut(s, beforeCats)
	level, is := text.Number(head)
	if !is {
		return api.Label{}, false
	}
	var cats []int
	if some {
		if cats, is = numbers(rest); !is {
			return api.Label{}, false
		}
	}
	a, e := Of(level, cats...)
	// Print tells one text of each label: categories that do not rise, or are named twice, are none.
	if e != api.OK || Print(a) != s {
		return api.Label{}, false
	}
	return a, true
}

// numbers stops at the first word that is no number.
func numbers(s string) ([]int, bool) {
	var l []int
	for more := true; more; {
		var word string
		word, s, more = strings.Cut(s, betweenCats)
		n, is := text.Number(word)
		if !is {
			return nil, false
		}
		l = append(l, n)
	}
	return l, true
}
