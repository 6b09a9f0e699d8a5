package remap_test

import (
	"math"
	"slices"
	"strings"
	"testing"

	"jalousie/api"
	"jalousie/label"
	"jalousie/remap"
)

// of is a label by its text.
func of(s string) api.Label {
	a, is := label.Parse(s)
	if !is {
		panic("no label: " + s)
	}
	return a
}

// row is the labels of commits, told with blanks between.
func row(s string) []api.Label {
	var l []api.Label
	for _, word := range strings.Fields(s) {
		l = append(l, of(word))
	}
	return l
}

// some is labels of which some lie below each other, and some do not; the last two are none that is right.
func some() []api.Label {
	return append(row("0 1 0:0 1:1 2:0,1"), api.Label{Level: -1}, api.Label{Level: 16, Cats: 1})
}

// every is all rows of up to n labels.
func every(n int) [][]api.Label {
	all := [][]api.Label{nil}
	last := all
	for range n {
		var next [][]api.Label
		for _, l := range last {
			for _, a := range some() {
				next = append(next, append(slices.Clone(l), a))
			}
		}
		all = append(all, next...)
		last = next
	}
	return all
}

// below is told by the fields, as chapter 2 has it.
func below(a, b api.Label) bool {
	return a.Level <= b.Level && a.Cats&^b.Cats == 0
}

// check is P17.1, of any labels, and numbers around those that are there.
func check(t *testing.T, l []api.Label, o api.Label, more ...int) {
	t.Helper()
	var want []int
	for rev, a := range l {
		if below(a, o) {
			want = append(want, rev)
		}
	}
	if got := remap.Seen(l, o); !slices.Equal(got, want) {
		t.Fatalf("Seen(%v, %v) = %v", l, o, got)
	}
	for n := -2; n < len(l)+2; n++ {
		more = append(more, n)
	}
	for _, n := range append(more, math.MinInt, math.MaxInt) {
		full, has := 0, n >= 0 && n < len(want)
		if has {
			full = want[n]
		}
		if rev, is := remap.Full(l, o, n); rev != full || is != has {
			t.Fatalf("Full(%v, %v, %d) = %d, %v", l, o, n, rev, is)
		}
		own := slices.Index(want, n)
		if k, is := remap.Own(l, o, n); k != max(own, 0) || is != (own >= 0) {
			t.Fatalf("Own(%v, %v, %d) = %d, %v", l, o, n, k, is)
		}
	}
	last := append([]int{0}, want...)[len(want)]
	if rev, is := remap.Last(l, o); rev != last || is != (len(want) > 0) {
		t.Fatalf("Last(%v, %v) = %d, %v", l, o, rev, is)
	}
	n := 0
	for _, a := range l {
		if a.Level == o.Level && a.Cats == o.Cats {
			n++
		}
	}
	if got := remap.Count(l, o); got != n {
		t.Fatalf("Count(%v, %v) = %d", l, o, got)
	}
}

// P17.1: where it is told by hand.
func TestCalls(t *testing.T) {
	for _, c := range []struct {
		l, o  string
		seen  []int
		last  int
		is    bool
		count int
	}{
		{"", "0", nil, 0, false, 0},
		{"", "15:0,63", nil, 0, false, 0},
		{"0 1 0", "0", []int{0, 2}, 2, true, 2}, // The document's example.
		{"0 1 0", "1", []int{0, 1, 2}, 2, true, 1},
		{"0 1 0", "2", []int{0, 1, 2}, 2, true, 0},
		{"0", "0", []int{0}, 0, true, 1},
		{"1", "0", nil, 0, false, 0},
		{"1 1 0", "0", []int{2}, 2, true, 1},
		{"0 1 1", "0", []int{0}, 0, true, 1},
		{"1:0 1:1 1 0:0,1 0:0", "1:0", []int{0, 2, 4}, 4, true, 1},
		{"1:0 1:1 1 0:0,1 0:0", "1:1", []int{1, 2}, 2, true, 1},
		{"1:0 1:1 1 0:0,1 0:0", "1", []int{2}, 2, true, 1},
		{"1:0 1:1 1 0:0,1 0:0", "15", []int{2}, 2, true, 0},
		{"1:0 1:1 1 0:0,1 0:0", "0:0,1", []int{3, 4}, 4, true, 1},
		{"1:0 1:1 1 0:0,1 0:0", "1:0,1", []int{0, 1, 2, 3, 4}, 4, true, 0},
		{"3:63 3 3:63", "3:63", []int{0, 1, 2}, 2, true, 2},
		{"3:63 3 3:63", "3", []int{1}, 1, true, 1},
		{"2 2 2 2", "2", []int{0, 1, 2, 3}, 3, true, 4},
	} {
		l, o := row(c.l), of(c.o)
		if got := remap.Seen(l, o); !slices.Equal(got, c.seen) {
			t.Errorf("Seen(%s, %s) = %v", c.l, c.o, got)
		}
		if rev, is := remap.Last(l, o); rev != c.last || is != c.is {
			t.Errorf("Last(%s, %s) = %d, %v", c.l, c.o, rev, is)
		}
		if n := remap.Count(l, o); n != c.count {
			t.Errorf("Count(%s, %s) = %d", c.l, c.o, n)
		}
		check(t, l, o)
	}
	if rev, is := remap.Full(row("0 1 0"), of("0"), 1); rev != 2 || !is {
		t.Errorf("the document's example: %d, %v", rev, is)
	}
}

// P17.1, P2: numbers that none has.
func TestNone(t *testing.T) {
	l := row("1 0 1 0 0 1")
	for _, k := range []int{-1, 3, 4, 6, math.MinInt, math.MaxInt, 1 << 32, -1 << 32} {
		if rev, is := remap.Full(l, of("0"), k); rev != 0 || is {
			t.Errorf("Full of %d: %d, %v", k, rev, is)
		}
	}
	for _, rev := range []int{-1, 0, 2, 5, 6, math.MinInt, math.MaxInt, 1<<32 + 1, 1 - 1<<32} {
		if k, is := remap.Own(l, of("0"), rev); k != 0 || is {
			t.Errorf("Own of %d: %d, %v", rev, k, is)
		}
	}
}

// P1, P17.1: labels that are not right are answered, too.
func TestWrongLabels(t *testing.T) {
	wild := []api.Label{
		{Level: -1}, {Level: math.MinInt, Cats: 1}, {Level: 16}, {Level: math.MaxInt, Cats: math.MaxUint64}, {Cats: 1 << 63}, {},
	}
	for _, o := range append(wild, label.Top(), of("0:0")) {
		check(t, wild, o)
		check(t, nil, o)
		check(t, []api.Label{o, {}, o}, o)
	}
	if got := remap.Seen(wild, api.Label{Level: -1}); !slices.Equal(got, []int{0}) {
		t.Errorf("%v", got)
	}
}

// P17.1: of all short rows.
func TestAll(t *testing.T) {
	for _, l := range every(4) {
		for _, o := range some() {
			check(t, l, o)
		}
	}
}

// P17.2: without the commits that one may not see, the numbers are the same, and among others, too.
func TestHiddenPlaysNoPart(t *testing.T) {
	for _, l := range every(4) {
		for _, o := range some() {
			revs := remap.Seen(l, o)
			cut, more, places := without(l, o)
			if got := remap.Seen(cut, o); len(got) != len(cut) || len(got) != len(revs) {
				t.Fatalf("%v at %v: %v, but %v of %v", l, o, revs, got, cut)
			}
			if got := remap.Seen(more, o); !slices.Equal(got, places) {
				t.Fatalf("%v at %v: %v, but %v of %v", l, o, revs, got, more)
			}
			for k, rev := range revs {
				own, is := remap.Own(l, o, rev)
				one, has := remap.Own(cut, o, k)
				other, had := remap.Own(more, o, places[k])
				if !is || !has || !had || own != one || own != other {
					t.Fatalf("%v at %v: %d is %d, %d, %d", l, o, rev, own, one, other)
				}
			}
			last, is := remap.Last(cut, o)
			if is != (len(revs) > 0) || is && last != len(revs)-1 || remap.Count(cut, o) != remap.Count(l, o) || remap.Count(more, o) != remap.Count(l, o) {
				t.Fatalf("%v at %v: the last one of %v is %d", l, o, cut, last)
			}
		}
	}
}

// without is labels without those that do not lie below o; and with more of these, and where the other ones are then.
func without(l []api.Label, o api.Label) (cut, more []api.Label, places []int) {
	hidden := api.Label{Level: o.Level + 1, Cats: o.Cats}
	for _, a := range l {
		more = append(more, hidden)
		if below(a, o) {
			cut = append(cut, a)
			places = append(places, len(more))
		}
		more = append(more, a, hidden)
	}
	return cut, more, places
}

// P17.3: Own of Full is the number, Full of Own the commit; who reads more has no smaller a number.
func TestNumbers(t *testing.T) {
	for _, l := range every(4) {
		for _, o := range some() {
			for k := range len(l) {
				if rev, is := remap.Full(l, o, k); is {
					if own, is := remap.Own(l, o, rev); !is || own != k {
						t.Fatalf("%v at %v: %d is %d is %d", l, o, k, rev, own)
					}
				}
			}
			for rev := range l {
				k, is := remap.Own(l, o, rev)
				if !is {
					continue
				}
				if full, is := remap.Full(l, o, k); !is || full != rev {
					t.Fatalf("%v at %v: %d is %d is %d", l, o, rev, k, full)
				}
				for _, above := range append(some(), label.Top()) {
					if n, is := remap.Own(l, above, rev); below(o, above) && (!is || n < k) {
						t.Fatalf("%v: %d is %d at %v, but %d at %v", l, rev, k, o, n, above)
					}
				}
			}
		}
	}
}

// P17.1: of many commits.
func TestMany(t *testing.T) {
	const n = 300000
	l := make([]api.Label, n)
	for rev := range l {
		l[rev].Level = rev % 3
	}
	revs := remap.Seen(l, of("1"))
	if len(revs) != n/3*2 || remap.Count(l, of("1")) != n/3 {
		t.Fatal(len(revs))
	}
	for k := 0; k < len(revs); k += 9973 {
		if want := k/2*3 + k%2; revs[k] != want {
			t.Fatal(k, revs[k])
		}
		if rev, is := remap.Full(l, of("1"), k); !is || rev != revs[k] {
			t.Fatal(k, rev, is)
		}
		if own, is := remap.Own(l, of("1"), revs[k]); !is || own != k {
			t.Fatal(revs[k], own, is)
		}
	}
	if rev, is := remap.Last(l, of("1")); !is || rev != n-2 {
		t.Fatal(rev, is)
	}
}

// spoil writes into all of a list, and behind it.
func spoil[E any](l []E, with E) {
	l = l[:cap(l)]
	for i := range l {
		l[i] = with
	}
}

// P3, P6: what is handed in stays as it is, spare room too; what is answered is new, and nothing is kept.
func TestNothingIsShared(t *testing.T) {
	l := row("0 1 0 1:0 0 0 0")
	was := slices.Clone(l)
	kept := remap.Seen(l[:5], of("0"))
	for range 3 {
		check(t, l[:5], of("0"))
		check(t, l[:5], of("1"))
		spoil(remap.Seen(l[:5], of("0")), 99)
		spoil(remap.Seen(l[:5], of("15:0")), 99)
	}
	if !slices.Equal(l, was) {
		t.Fatalf("left: %v", l)
	}
	spoil(l, of("9"))
	if !slices.Equal(kept, []int{0, 2, 4}) {
		t.Errorf("kept: %v", kept)
	}
	if got := remap.Seen(l, of("0")); len(got) != 0 {
		t.Errorf("of others: %v", got)
	}
}

// FuzzLabels is P1, P17.1 to P17.3: of any labels.
func FuzzLabels(f *testing.F) {
	f.Add([]byte("\x00\x01\x00\x42\x81\xff"), 0, uint64(0), 1)
	f.Add([]byte{}, -1, uint64(math.MaxUint64), math.MinInt)
	f.Add([]byte("zzz\x00"), math.MaxInt, uint64(1), math.MaxInt)
	f.Fuzz(func(t *testing.T, b []byte, level int, cats uint64, n int) {
		if len(b) > 300 {
			return
		}
		o := api.Label{Level: level, Cats: cats}
		l := make([]api.Label, len(b))
		for rev, c := range b {
			l[rev] = api.Label{Level: level/2 + int(c&63) - 32, Cats: cats >> (c >> 6)}
			if c>>6 == 3 {
				l[rev] = o
			}
		}
		was := slices.Clone(l)
		check(t, l, o, n)
		check(t, l, api.Label{Level: n, Cats: cats}, n)
		if !slices.Equal(l, was) {
			t.Errorf("left: %v", l)
		}
	})
}
