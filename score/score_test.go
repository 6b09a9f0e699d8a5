package score_test

import (
	"encoding/binary"
	"math"
	"math/big"
	"math/rand"
	"slices"
	"testing"

	"jalousie/score"
)

const (
	least = math.SmallestNonzeroFloat64
	most  = math.MaxFloat64
)

// Literals of -0 and numbers without end are none in Go.
var (
	minus = math.Copysign(0, -1)
	inf   = math.Inf(1)
	nan   = math.NaN()
	// Other bits of NaN, with a sign, too.
	nans = []float64{nan, -nan, math.Float64frombits(0x7ff0000000000001), math.Float64frombits(0xfff8000000000123), math.Float64frombits(math.MaxUint64)}
)

// rising is numbers in the order of all.
func rising() []float64 {
	return []float64{
		-inf, -most, -1e300, -1000.5, -2, math.Nextafter(-1, -2), -1, math.Nextafter(-1, 0), -0.5, -0x1p-1022, -0x1p-1023, -2 * least, -least, minus,
		0, least, 2 * least, 3 * least, 0x1p-1023, 0x1p-1022, 1e-300, 0.001, 1.0 / 3, 0.5, math.Nextafter(1, 0), 1, math.Nextafter(1, 2), 2, 1000.5, 1e300, most, inf,
	}
}

// all is these, and NaN.
func all() []float64 {
	return append(rising(), nans...)
}

// same: are two numbers alike in all bits? All NaN are alike.
func same(a, b float64) bool {
	return math.Float64bits(a) == math.Float64bits(b) || a != a && b != b
}

// alike is the same of lists.
func alike(a, b []float64) bool {
	return slices.EqualFunc(a, b, same)
}

// key tells the order of all by a number's bits.
func key(x float64) uint64 {
	b := math.Float64bits(x)
	switch {
	case b<<1 > 0x7ff<<53:
		return math.MaxUint64
	case b>>63 == 1:
		return ^b
	}
	return b | 1<<63
}

// order is P22.1, of Order, told by bits.
func order(a, b float64) int {
	switch {
	case key(a) < key(b):
		return -1
	case key(a) > key(b):
		return 1
	}
	return 0
}

// rounded is an exact number as a float, with the sign of another one where it is 0.
func rounded(x *big.Rat, like float64) float64 {
	f, _ := x.Float64()
	return math.Copysign(f, like)
}

// halved is x, halved once, told by exact numbers.
func halved(x float64) float64 {
	if math.IsNaN(x) || math.IsInf(x, 0) {
		return x
	}
	exact := new(big.Rat).SetFloat64(x)
	return rounded(exact.Mul(exact, big.NewRat(1, 2)), x)
}

// P22.1: Ratio, where there is one.
func TestRatio(t *testing.T) {
	for _, one := range []struct {
		common, n, m int
		want         float64
	}{
		{1, 1, 3, 0.5}, // The document's example.
		{0, 1, 0, 0}, {0, 0, 1, 0}, {0, 5, 7, 0}, {2, 2, 2, 1}, {1, 1, 1, 1}, {1, 1, 2, 2.0 / 3}, {1, 3, 3, 1.0 / 3}, {3, 4, 5, 6.0 / 9}, {1, 5, 5, 0.2}, {3, 5, 5, 0.6}, {7, 400, 393, 14.0 / 793},
		{math.MaxInt32, math.MaxInt32, math.MaxInt32, 1}, {1, math.MaxInt32, math.MaxInt32, 1.0 / math.MaxInt32}, {1, math.MaxInt32, 1, 0x1p-30}, {0, math.MaxInt32, 0, 0},
		{math.MaxInt32 - 1, math.MaxInt32, math.MaxInt32 - 1, (1<<32 - 4) / 4294967293.0},
	} {
		if got := score.Ratio(one.common, one.n, one.m); !same(got, one.want) {
			t.Errorf("Ratio(%d, %d, %d) = %v", one.common, one.n, one.m, got)
		}
	}
}

// ratio is P22.1, of Ratio, and P22.6 of it.
func ratio(t *testing.T, common, n, m int) {
	t.Helper()
	want := nan
	if n >= 0 && m >= 0 && common >= 0 && n <= math.MaxInt32 && m <= math.MaxInt32 && common <= n && common <= m && n+m > 0 {
		want = rounded(big.NewRat(2*int64(common), int64(n)+int64(m)), 1)
		if want < 0 || want > 1 {
			t.Fatal(common, n, m, want)
		}
	}
	if got := score.Ratio(common, n, m); !same(got, want) {
		t.Fatalf("Ratio(%d, %d, %d) = %v, not %v", common, n, m, got, want)
	}
	if got := score.Ratio(common, m, n); !same(got, want) {
		t.Fatalf("Ratio(%d, %d, %d) = %v, not %v", common, m, n, got, want)
	}
}

// P22.1, P22.6: Ratio of small numbers, and at the edges.
func TestRatios(t *testing.T) {
	for n := -2; n < 30; n++ {
		for m := -2; m < 30; m++ {
			for common := -2; common < 31; common++ {
				ratio(t, common, n, m)
			}
		}
	}
	edges := []int{math.MinInt, math.MinInt + 1, math.MinInt32, -1, 0, 1, 2, 399, 1 << 30, math.MaxInt32 - 1, math.MaxInt32, math.MaxInt32 + 1, 1 << 32, math.MaxInt/2 + 1, math.MaxInt - 1, math.MaxInt}
	for _, common := range edges {
		for _, n := range edges {
			for _, m := range edges {
				ratio(t, common, n, m)
			}
		}
	}
	turn := rand.New(rand.NewSource(22))
	for range 20000 {
		n, m := int(turn.Int31()), int(turn.Int31())
		ratio(t, turn.Intn(min(n, m)+1), n, m)
	}
}

// P22.1, P22.4: Order is that of the list, and a total order.
func TestOrder(t *testing.T) {
	if score.Order(minus, 0) != -1 || score.Order(0, minus) != 1 { // The document's example.
		t.Error("-0 and +0")
	}
	l := rising()
	for i, a := range l {
		for j, b := range l {
			want := 0
			if i < j {
				want = -1
			}
			if i > j {
				want = 1
			}
			if got := score.Order(a, b); got != want || got != order(a, b) {
				t.Errorf("Order(%v, %v) = %d", a, b, got)
			}
		}
		for _, x := range nans {
			if score.Order(a, x) != -1 || score.Order(x, a) != 1 {
				t.Errorf("Order(%v, NaN) = %d, %d", a, score.Order(a, x), score.Order(x, a))
			}
		}
	}
	for _, x := range nans {
		for _, y := range nans {
			if score.Order(x, y) != 0 {
				t.Errorf("Order(NaN, NaN) = %d", score.Order(x, y))
			}
		}
	}
}

// P22.1, P22.5: Sort has the same numbers in order, whichever order they had.
func TestSort(t *testing.T) {
	if got := score.Sort(nil); len(got) != 0 {
		t.Errorf("Sort(nil) = %v", got)
	}
	want := []float64{-inf, -1, minus, minus, 0, 0, least, 2, inf, nan, nan}
	turn := rand.New(rand.NewSource(5))
	for range 2000 {
		l := slices.Clone(want)
		turn.Shuffle(len(l), func(i, j int) { l[i], l[j] = l[j], l[i] })
		if got := score.Sort(l); !alike(got, want) {
			t.Fatalf("Sort(%v) = %v", l, got)
		}
	}
	l := all()
	for range 200 {
		turn.Shuffle(len(l), func(i, j int) { l[i], l[j] = l[j], l[i] })
		if got := score.Sort(l); !alike(got, all()) {
			t.Fatalf("Sort(%v) = %v", l, got)
		}
	}
	var many []float64
	for range 3000 {
		many = append(many, all()[turn.Intn(len(all()))])
	}
	byKey := slices.Clone(many)
	slices.SortFunc(byKey, order)
	if !alike(score.Sort(many), byKey) {
		t.Error("3000 numbers")
	}
}

// shorts is all lists of at most four of these numbers.
func shorts(of []float64) [][]float64 {
	lists := [][]float64{nil}
	for from := 0; len(lists[len(lists)-1]) < 4; {
		end := len(lists)
		for _, l := range lists[from:end] {
			for _, x := range of {
				lists = append(lists, append(slices.Clone(l), x))
			}
		}
		from = end
	}
	return lists
}

// P22.1: Best.
func TestBest(t *testing.T) {
	for _, one := range []struct {
		l    []float64
		want int
	}{
		{nil, -1}, {[]float64{nan}, -1}, {nans, -1}, {[]float64{0}, 0}, {[]float64{nan, 2, 2, 1}, 1}, {[]float64{1, nan, 2, 3, nan, 3}, 3}, {[]float64{3, 2, 1}, 0}, {[]float64{1, 2, 3}, 2},
		{[]float64{minus, 0, 0}, 1}, {[]float64{-1, minus, minus}, 1}, {[]float64{nan, -inf}, 1}, {[]float64{-inf, -most}, 1}, {[]float64{most, inf, inf}, 1},
	} {
		if got := score.Best(one.l); got != one.want {
			t.Errorf("Best(%v) = %d", one.l, got)
		}
	}
	for _, l := range shorts([]float64{-inf, minus, 0, 1, inf, nan, -nan}) {
		want := -1
		for i := len(l) - 1; i >= 0; i-- {
			if l[i] == l[i] && (want < 0 || key(l[i]) >= key(l[want])) {
				want = i
			}
		}
		if got := score.Best(l); got != want {
			t.Fatalf("Best(%v) = %d", l, got)
		}
	}
}

// P22.2, P5: Mean, from the left, each sum rounded by itself.
func TestMean(t *testing.T) {
	for _, one := range []struct {
		l    []float64
		want float64
	}{
		{nil, nan}, {[]float64{}, nan}, {[]float64{inf, -inf}, nan}, // The document's example.
		{[]float64{1, 2}, 1.5}, {[]float64{7}, 7}, {[]float64{nan, 1}, nan}, {[]float64{1, -nan}, nan}, {[]float64{inf, 1}, inf}, {[]float64{-inf, most}, -inf}, {[]float64{inf, -inf, 1}, nan},
		{[]float64{minus}, 0}, {[]float64{minus, minus}, 0}, {[]float64{0}, 0}, {[]float64{1, -1}, 0}, {[]float64{-least}, -least}, {[]float64{-least, 0}, minus}, {[]float64{least, 0}, 0}, {[]float64{-1, 0, 0, 0}, -0.25},
		{[]float64{1e16, 1, -1e16}, 0}, {[]float64{1e16, -1e16, 1}, 1.0 / 3}, {[]float64{1, 1e16, -1e16}, 0},
		{[]float64{most, most}, inf}, {[]float64{most, most, -inf}, nan}, {[]float64{most, -most, most}, most / 3}, {[]float64{-most, -most, most}, -inf},
		{[]float64{0.1, 0.2, 0.3}, math.Float64frombits(0x3fc999999999999b)}, {[]float64{0.3, 0.2, 0.1}, math.Float64frombits(0x3fc9999999999999)}, {[]float64{least, least, least}, least}, {[]float64{least, least}, least},
	} {
		if got := score.Mean(one.l); !same(got, one.want) {
			t.Errorf("Mean(%v) = %v", one.l, got)
		}
	}
	tenths := slices.Repeat([]float64{0.1}, 10)
	if got := score.Mean(tenths); got != math.Nextafter(1, 0)/10 {
		t.Errorf("Mean(0.1 ..) = %v", got)
	}
}

// P22.2: Median, where it is told by hand.
func TestMedian(t *testing.T) {
	for _, one := range []struct {
		l    []float64
		want float64
	}{
		{nil, nan}, {[]float64{}, nan}, {[]float64{nan}, nan}, {[]float64{1, nan, 2}, nan}, {[]float64{1, 2, 3, -nan}, nan}, {[]float64{nan, inf}, nan},
		{[]float64{5}, 5}, {[]float64{minus}, minus}, {[]float64{inf}, inf}, {[]float64{3, 1, 2}, 2}, {[]float64{3, 1, 2, 10}, 2.5}, {[]float64{1, 2}, 1.5}, {[]float64{10, 1}, 5.5},
		{[]float64{most, most}, most}, {[]float64{-most, -most}, -most}, {[]float64{most, -most}, 0}, {[]float64{inf, -inf}, nan}, {[]float64{inf, 1}, inf}, {[]float64{-inf, 1}, -inf}, {[]float64{inf, 1, -inf}, 1}, {[]float64{inf, inf}, inf},
		{[]float64{minus, 0}, 0}, {[]float64{0, minus}, 0}, {[]float64{minus, minus}, minus}, {[]float64{0, minus, -1}, minus}, {[]float64{1, 0, minus}, 0},
		// Each half is rounded by itself: half of the least number is 0.
		{[]float64{least, least}, 0}, {[]float64{3 * least, 3 * least}, 4 * least}, {[]float64{-least, -least}, minus}, {[]float64{least, -least}, 0}, {[]float64{0.1, 0.2}, math.Nextafter(0.15, 1)},
	} {
		if got := score.Median(one.l); !same(got, one.want) {
			t.Errorf("Median(%v) = %v", one.l, got)
		}
	}
}

// P22.2: Median of all short lists.
func TestMedians(t *testing.T) {
	for _, l := range shorts([]float64{-inf, -1.5, minus, 0, least, 3, most, nan}) {
		want := nan
		if n := len(l); n > 0 && !slices.ContainsFunc(l, math.IsNaN) {
			sorted := slices.Clone(l)
			slices.SortFunc(sorted, order)
			want = sorted[n/2]
			if n%2 == 0 {
				want = halved(sorted[n/2-1]) + halved(sorted[n/2])
			}
		}
		if got := score.Median(l); !same(got, want) {
			t.Fatalf("Median(%v) = %v, not %v", l, got, want)
		}
	}
}

// P22.2, P22.6: Clamp of all these.
func TestClamp(t *testing.T) {
	for _, x := range all() {
		for _, low := range all() {
			for _, high := range all() {
				got := score.Clamp(x, low, high)
				if x != x || low != low || high != high || key(low) > key(high) {
					if got == got {
						t.Fatalf("Clamp(%v, %v, %v) = %v", x, low, high, got)
					}
					continue
				}
				want := x
				if key(x) < key(low) {
					want = low
				}
				if key(x) > key(high) {
					want = high
				}
				if !same(got, want) || key(got) < key(low) || key(got) > key(high) {
					t.Fatalf("Clamp(%v, %v, %v) = %v", x, low, high, got)
				}
			}
		}
	}
	if !same(score.Clamp(minus, 0, 1), 0) || !same(score.Clamp(0, -1, minus), minus) || !same(score.Clamp(minus, minus, 0), minus) || !same(score.Clamp(2, 2, 2), 2) || score.Clamp(1, 0, minus) == 0 {
		t.Error("zeros")
	}
}

// P22.3, P22.6, P5: Halve, each time rounded, with the sign that it had.
func TestHalve(t *testing.T) {
	if got := score.Halve(-1, 2000); !same(got, minus) { // The document's example.
		t.Errorf("Halve(-1, 2000) = %v", got)
	}
	turn := rand.New(rand.NewSource(3))
	numbers := all()
	for range 50 {
		numbers = append(numbers, math.Float64frombits(turn.Uint64()), math.Float64frombits(turn.Uint64()&(1<<63|1<<53-1)))
	}
	for _, x := range numbers {
		for _, n := range []int{0, -1, math.MinInt} {
			if got := score.Halve(x, n); !same(got, x) {
				t.Fatalf("Halve(%v, %d) = %v", x, n, got)
			}
		}
		want := x
		for n := 1; n < 2300; n++ {
			want = halved(want)
			if got := score.Halve(x, n); !same(got, want) || x == x && math.Signbit(got) != math.Signbit(x) {
				t.Fatalf("Halve(%v, %d) = %v, not %v", x, n, got, want)
			}
			if n > 60 && (want == 0 || want != want) {
				break
			}
		}
		if math.IsInf(want, 0) || want == 0 || want != want {
			for _, n := range []int{5000, math.MaxInt32 + 1, math.MaxInt} {
				if got := score.Halve(x, n); !same(got, want) {
					t.Fatalf("Halve(%v, %d) = %v", x, n, got)
				}
			}
		}
	}
	// Rounded each time, to the even one: at once it would be the greater one.
	if got := score.Halve(11*least, 2); got != 3*least {
		t.Errorf("Halve(11 least, 2) = %v", got)
	}
	if got := score.Halve(5*least, 2); got != least {
		t.Errorf("Halve(5 least, 2) = %v", got)
	}
	if got := score.Halve(3*least, 2); got != least {
		t.Errorf("Halve(3 least, 2) = %v", got)
	}
	if got := score.Halve(8, 3); got != 1 {
		t.Errorf("Halve(8, 3) = %v", got)
	}
}

// mille is P22.3, of Mille, told by exact numbers.
func mille(x float64) int {
	switch {
	case x != x:
		return -1
	case x < 0:
		return 0
	case x >= 1:
		return 1000
	}
	exact := new(big.Rat).SetFloat64(x)
	product, _ := exact.Mul(exact, big.NewRat(1000, 1)).Float64()
	n := 0
	for float64(n+1) <= product {
		n++
	}
	return n
}

// P22.3: Mille.
func TestMille(t *testing.T) {
	for _, one := range []struct {
		x    float64
		want int
	}{
		{nan, -1}, {-nan, -1}, {-inf, 0}, {-1, 0}, {-least, 0}, {minus, 0}, {0, 0}, {least, 0}, {0.0009999, 0}, {0.001, 1}, {0.5, 500}, {2.0 / 3, 666}, {0.999, 999}, {0.9999999, 999},
		{math.Nextafter(1, 0), 999}, {1, 1000}, {math.Nextafter(1, 2), 1000}, {2, 1000}, {most, 1000}, {inf, 1000},
		// 0.29 and 0.57 lie below the numbers that are written so, but their products are just 290 and 570.
		{0.29, 290}, {0.57, 570}, {0.58, 580}, {1.001, 1000},
	} {
		if got := score.Mille(one.x); got != one.want {
			t.Errorf("Mille(%v) = %d", one.x, got)
		}
	}
	for n := range 1001 {
		x := float64(n) / 1000
		for _, y := range []float64{x, math.Nextafter(x, 0), math.Nextafter(x, 2), -x} {
			if got := score.Mille(y); got != mille(y) {
				t.Fatalf("Mille(%v) = %d, not %d", y, got, mille(y))
			}
		}
	}
	for _, x := range all() {
		if got := score.Mille(x); got != mille(x) {
			t.Fatalf("Mille(%v) = %d", x, got)
		}
	}
}

// P3: what is handed in stays as it is, and Sort is new memory.
func TestAnswersAreNew(t *testing.T) {
	want := []float64{3, nan, minus, 0, -1, 7, 7, 7}
	l := slices.Clone(want)
	l = l[:5:8]
	calls := func() {
		score.Best(l)
		score.Mean(l)
		score.Median(l)
		score.Sort(l)
	}
	calls()
	if !alike(l[:8], want) {
		t.Errorf("%v", l[:8])
	}
	l = []float64{1, 2, 3}
	sorted := score.Sort(l)
	for i := range sorted {
		sorted[i] = 9
	}
	if !alike(l, []float64{1, 2, 3}) {
		t.Errorf("Sort lies in what was handed in: %v", l)
	}
}

// numbers is the floats that bytes tell.
func numbers(b []byte) []float64 {
	var l []float64
	for ; len(b) >= 8; b = b[8:] {
		l = append(l, math.Float64frombits(binary.LittleEndian.Uint64(b)))
	}
	return l
}

// FuzzNumbers is P1, P22.1 to P22.6: of any numbers.
func FuzzNumbers(f *testing.F) {
	var b []byte
	for _, x := range all() {
		b = binary.LittleEndian.AppendUint64(b, math.Float64bits(x))
	}
	f.Add(b, 3, 1, 3)
	f.Add(b[:24], math.MaxInt, math.MinInt, -1)
	f.Add([]byte{}, 0, 0, 0)
	f.Fuzz(func(t *testing.T, b []byte, common, n, m int) {
		ratio(t, common, n, m)
		ratio(t, common&255, n&255, m&255)
		l := numbers(b)
		want := slices.Clone(l)
		slices.SortStableFunc(want, order)
		if got := score.Sort(l); !alike(got, want) {
			t.Fatalf("Sort(%v) = %v", l, got)
		}
		best := score.Best(l)
		for i, x := range l {
			if x == x && (best < 0 || key(x) > key(l[best]) || key(x) == key(l[best]) && i < best) {
				t.Fatalf("Best(%v) = %d", l, best)
			}
			if got := score.Mille(x); got != mille(x) {
				t.Fatalf("Mille(%v) = %d", x, got)
			}
			half := score.Halve(x, n)
			if n < 1 && !same(half, x) || n > 0 && !same(half, score.Halve(halved(x), n-1)) {
				t.Fatalf("Halve(%v, %d) = %v", x, n, half)
			}
			if got := score.Order(x, l[0]); got != order(x, l[0]) {
				t.Fatalf("Order(%v, %v) = %d", x, l[0], got)
			}
		}
		score.Mean(l)
		score.Median(l)
	})
}
