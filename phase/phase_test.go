package phase_test

import (
	"math"
	"math/big"
	"slices"
	"testing"

	"campanile/phase"
)

// The calls have just these signatures.
var (
	_ func(complex128, int) complex128      = phase.Turn
	_ func(a, b complex128) complex128      = phase.Times
	_ func(complex128) float64              = phase.Norm
	_ func(...complex128) complex128        = phase.Sum
	_ func(complex128) int                  = phase.Quarter
	_ func(complex128, ...complex128) int   = phase.Near
	_ func(a, b complex128) bool            = phase.Same
	_ func(z complex128, most int) (b bool) = phase.Whole
)

var (
	inf   = math.Inf(1)
	nan   = math.NaN()
	other = math.Float64frombits(0xfff0000000000001) // another one that is none

	nought = 0.0
	below  = math.Copysign(0, -1) // 0 with the sign of what is below it
)

// extremes are numbers of which some go round if anything is added to them, or turned.
var extremes = []int{math.MinInt, math.MinInt + 1, math.MinInt32, -1, math.MaxInt32, math.MaxInt - 1, math.MaxInt}

// floats are numbers of all sorts; of the products of some of them the last bits go.
var floats = []float64{
	nought, below, 1, -1, 0.5, -3, 1024, 0.1, -0.3,
	1 + 1.0/(1<<30), -1 - 1.0/(1<<29), 1.0 / 3, 1e154, -1.4e154, 1e-160, -3e-162,
	math.MaxFloat64, -math.MaxFloat64, math.SmallestNonzeroFloat64, -math.SmallestNonzeroFloat64,
	inf, -inf, nan, other,
}

// numbers are all pairs of them.
func numbers() []complex128 {
	var l []complex128
	for _, re := range floats {
		for _, im := range floats {
			l = append(l, complex(re, im))
		}
	}
	return l
}

// alike tells whether two floats are the same, of their signs and exponents and the rest.
func alike(x, y float64) bool {
	if x != x || y != y {
		return x != x && y != y
	}
	return x == y && math.Signbit(x) == math.Signbit(y)
}

func alikes(a, b complex128) bool {
	return alike(real(a), real(b)) && alike(imag(a), imag(b))
}

// exact is a number that big arithmetic knows, and is not 0 (of which it would have to be asked for signs).
func exact(x float64) bool { return x == x && !math.IsInf(x, 0) && x != 0 }

// product is the product of two floats, reckoned in full, then rounded once.
func product(x, y float64) float64 {
	if !exact(x) || !exact(y) {
		return x * y
	}
	z, _ := wide().Mul(wide().SetFloat64(x), wide().SetFloat64(y)).Float64()
	return z
}

// sum is the sum of two floats, reckoned in full, then rounded once.
func sum(x, y float64) float64 {
	if !exact(x) || !exact(y) || x == -y {
		return x + y
	}
	z, _ := wide().Add(wide().SetFloat64(x), wide().SetFloat64(y)).Float64()
	return z
}

func wide() *big.Float { return new(big.Float).SetPrec(2400) }

func TestTurn(t *testing.T) { // P9.1
	for _, z := range numbers() {
		re, im := real(z), imag(z)
		wants := [4]complex128{z, complex(minus(im), re), complex(minus(re), minus(im)), complex(im, minus(re))}
		for k, want := range wants {
			for _, n := range []int{k, k + 4, k - 4, k - 8, k + 1<<40, math.MinInt + k, math.MaxInt - 3 + k} {
				if x := phase.Turn(z, n); !alikes(x, want) {
					t.Fatal(z, n, x, want)
				}
			}
		}
	}
}

// minus turns the sign of a float, of 0 too.
func minus(x float64) float64 {
	return math.Float64frombits(math.Float64bits(x) ^ 1<<63)
}

func TestTurnOfNought(t *testing.T) { // P9.1
	if x := phase.Turn(complex(1, 0), 1); !math.Signbit(real(x)) || imag(x) != 1 {
		t.Error(x)
	}
	if x := phase.Turn(complex(below, nought), 2); math.Signbit(real(x)) || !math.Signbit(imag(x)) {
		t.Error(x)
	}
	if x := phase.Turn(complex(nought, below), 3); !math.Signbit(real(x)) || !math.Signbit(imag(x)) {
		t.Error(x)
	}
}

func TestTimes(t *testing.T) { // P9.1, P7
	all := numbers()
	for _, a := range all {
		for _, b := range all {
			re := sum(product(real(a), real(b)), -product(imag(a), imag(b)))
			im := sum(product(real(a), imag(b)), product(imag(a), real(b)))
			if x := phase.Times(a, b); !alikes(x, complex(re, im)) {
				t.Fatal(a, b, x, re, im)
			}
		}
	}
}

func TestTimesRoundsEachByItself(t *testing.T) { // P9.1, P7
	x := 1 + 1.0/(1<<30)
	if z := phase.Times(complex(x, x), complex(x, x)); real(z) != 0 {
		t.Error("what is less than nothing, or more", z)
	}
	if z := phase.Times(complex(x, -x), complex(x, x)); imag(z) != 0 {
		t.Error("what is less than nothing, or more", z)
	}
	if z := phase.Times(complex(inf, 1), complex(1, inf)); !math.IsNaN(real(z)) || !math.IsInf(imag(z), 1) {
		t.Error("without end", z)
	}
	// what Go's own product of complex numbers mends, where parts have no end, is not mended here
	if z := phase.Times(complex(inf, inf), complex(0, 1)); !math.IsNaN(real(z)) || !math.IsNaN(imag(z)) {
		t.Error("without end, times nought", z)
	}
}

func TestNorm(t *testing.T) { // P9.1, P7
	for _, z := range numbers() {
		want := sum(product(real(z), real(z)), product(imag(z), imag(z)))
		if x := phase.Norm(z); !alike(x, want) {
			t.Fatal(z, x, want)
		}
	}
	if x := phase.Norm(complex(3, -4)); x != 25 {
		t.Error(x)
	}
}

func TestSum(t *testing.T) { // P9.1, P7
	if x := phase.Sum(); !alikes(x, 0) {
		t.Error("of none", x)
	}
	all := numbers()
	for _, a := range all {
		want := complex(sum(0, real(a)), sum(0, imag(a)))
		if x := phase.Sum(a); !alikes(x, want) {
			t.Fatal(a, x, want)
		}
		for _, b := range all {
			want := complex(sum(real(want), real(b)), sum(imag(want), imag(b)))
			if x := phase.Sum(a, b); !alikes(x, want) {
				t.Fatal(a, b, x, want)
			}
		}
	}
}

func TestSumIsInOrder(t *testing.T) { // P9.1
	if x := phase.Sum(complex(1e16, 1), complex(1, 1e16), complex(-1e16, -1e16)); x != complex(0, 0) {
		t.Error(x)
	}
	if x := phase.Sum(complex(1e16, 1e16), complex(-1e16, -1e16), complex(1, 1)); x != complex(1, 1) {
		t.Error(x)
	}
	if x := phase.Sum(complex(below, below)); !alikes(x, 0) {
		t.Error("0, and what is below it", x)
	}
	if x := phase.Sum(complex(1, 2), complex(-3, 1), complex(0.5, nan)); real(x) != -1.5 || !math.IsNaN(imag(x)) {
		t.Error(x)
	}
}

// quarter is the quarter of a number, from the document's words.
func quarter(z complex128) int {
	re, im := real(z), imag(z)
	switch {
	case re == 0 || im == 0 || re != re || im != im:
		return -1
	case re > 0 && im > 0:
		return 0
	case im > 0:
		return 1
	case re > 0:
		return 3
	}
	return 2
}

func TestQuarter(t *testing.T) { // P9.2
	for _, z := range numbers() {
		if q := phase.Quarter(z); q != quarter(z) {
			t.Error(z, q)
		}
	}
	tiny := math.SmallestNonzeroFloat64
	for _, c := range []struct {
		z complex128
		q int
	}{
		{complex(1, 1), 0}, {complex(-1, 2), 1}, {complex(-1, -tiny), 2}, {complex(tiny, -inf), 3},
		{complex(0, 1), -1}, {complex(1, below), -1}, {0, -1}, {complex(nan, 1), -1}, {complex(-1, nan), -1},
	} {
		if q := phase.Quarter(c.z); q != c.q {
			t.Error(c.z, q, c.q)
		}
	}
}

// near is the place of the nearest number, from the document's words: nobody is nearer, and nobody ahead of it as near.
func near(z complex128, l []complex128) int {
	norm := func(x complex128) float64 {
		re, im := sum(real(z), -real(x)), sum(imag(z), -imag(x))
		return sum(product(re, re), product(im, im))
	}
	for i, x := range l {
		n := norm(x)
		worse := func(y complex128) bool { return norm(y) < n }
		asNear := func(y complex128) bool { return norm(y) <= n }
		if n == n && !slices.ContainsFunc(l, worse) && !slices.ContainsFunc(l[:i], asNear) {
			return i
		}
	}
	return -1
}

func TestNear(t *testing.T) { // P9.2
	all := numbers()
	for i, z := range all {
		for step := 1; step < 24; step++ {
			l := []complex128{}
			for j := range step % 6 {
				l = append(l, all[(i*7+j*step*step*5+j)%len(all)])
			}
			if x := phase.Near(z, l...); x != near(z, l) {
				t.Fatal(z, l, x, near(z, l))
			}
		}
	}
	for _, c := range []struct {
		z    complex128
		l    []complex128
		want int
	}{
		{1, nil, -1},
		{1, []complex128{}, -1},
		{complex(1, 1), []complex128{2, 1i, 1}, 1},
		{0, []complex128{complex(nan, 0), complex(0, nan)}, -1},
		{0, []complex128{complex(nan, 0), 2, -2i}, 1},
		{complex(nan, 0), []complex128{1, 0}, -1},
		{0, []complex128{complex(inf, 0), complex(0, -inf)}, 0},
		{0, []complex128{complex(inf, 0), complex(nan, 0), 1e300, 5}, 3},
		{complex(inf, 0), []complex128{complex(inf, 0), 1}, 1},
		{0, []complex128{1e200, 1e190}, 0}, // both Norms have no end
		{0, []complex128{1e-190, 0}, 0},    // both are 0
		{complex(5, 5), []complex128{0, complex(5, 4), complex(5, 6), complex(5, 5.5)}, 3},
	} {
		if x := phase.Near(c.z, c.l...); x != c.want {
			t.Error(c.z, c.l, x, c.want)
		}
	}
}

func TestNearRoundsEachByItself(t *testing.T) { // P9.2, P7
	x := 1 + 1.0/(1<<30)
	y := math.Sqrt(2) / x // a square that is not rounded would make a difference
	l := []complex128{complex(x, y), complex(y, x), complex(-x, y), complex(y, -x)}
	if i := phase.Near(0, l...); i != 0 {
		t.Error(i)
	}
	slices.Reverse(l)
	if i := phase.Near(0, l...); i != 0 {
		t.Error(i)
	}
}

func TestSame(t *testing.T) { // P9.2
	all := numbers()
	for _, a := range all {
		for _, b := range all {
			if x := phase.Same(a, b); x != alikes(a, b) {
				t.Fatal(a, b, x)
			}
		}
	}
	if !phase.Same(complex(nan, other), complex(other, nan)) || phase.Same(complex(nan, 1), complex(1, nan)) {
		t.Error("none")
	}
	if phase.Same(complex(nought, 1), complex(below, 1)) || phase.Same(complex(1, nought), complex(1, below)) {
		t.Error("the sign of nought")
	}
}

func TestWhole(t *testing.T) { // P9.2
	for _, c := range []struct {
		z    complex128
		most int
		want bool
	}{
		{0, 0, true}, {complex(below, below), 0, true}, {1, 0, false}, {-1i, 0, false},
		{complex(3, -4), 4, true}, {complex(-4, 4), 4, true}, {complex(3, -5), 4, false}, {complex(5, 3), 4, false},
		{complex(-5, 3), 4, false}, {complex(3, 5), 4, false},
		{complex(0.5, 0), 4, false}, {complex(0, -0.5), 4, false}, {complex(3.9999999999999996, 1), 4, false},
		{complex(math.SmallestNonzeroFloat64, 1), 4, false}, {complex(1, -math.SmallestNonzeroFloat64), 4, false},
		{complex(nan, 0), 4, false}, {complex(0, nan), 4, false},
		{complex(inf, 0), math.MaxInt, false}, {complex(0, -inf), math.MaxInt, false},
		{0, -1, false}, {1, -1, false}, {0, math.MinInt, false}, {complex(1<<63, -1<<63), math.MinInt, false},
		{complex(1<<63, -1<<63), math.MaxInt, true}, // rounded, the most is 2^63
		{complex(1<<63+2048, 0), math.MaxInt, false},
		{complex(1<<53, 0), 1<<53 + 1, true},
		{complex(1<<53+2, 0), 1<<53 + 1, false}, // rounded to 2^53
		{complex(1<<53+4, 0), 1<<53 + 3, true},  // rounded to 2^53+4
		{complex(math.MaxFloat64, 0), math.MaxInt, false},
		{complex(math.MaxInt32, -math.MaxInt32), math.MaxInt32, true},
		{complex(math.MaxInt32+1, 0), math.MaxInt32, false},
	} {
		if x := phase.Whole(c.z, c.most); x != c.want {
			t.Error(c.z, c.most, x)
		}
	}
	for _, z := range numbers() {
		for _, most := range append([]int{0, 1, 2, 3, 1023, 1024}, extremes...) {
			want := true
			for _, x := range []float64{real(z), imag(z)} {
				want = want && math.Abs(x) <= float64(most) && math.Floor(x) == math.Ceil(x)
			}
			if x := phase.Whole(z, most); x != want {
				t.Fatal(z, most, x)
			}
		}
	}
}

func TestTurnsFollow(t *testing.T) { // P9.3
	for _, z := range numbers() {
		for k := -9; k < 9; k++ {
			x := phase.Turn(z, k)
			if !phase.Same(phase.Turn(x, -k), z) {
				t.Fatal("back", z, k)
			}
			want := phase.Quarter(z)
			if want >= 0 {
				want = (want + k + 12) % 4
			}
			if q := phase.Quarter(x); q != want {
				t.Fatal("quarter", z, k, q)
			}
			if n := phase.Norm(x); !alike(n, phase.Norm(z)) {
				t.Fatal("Norm", z, k, n)
			}
		}
	}
}

func TestNormOfTimes(t *testing.T) { // P9.4
	var l []complex128
	for _, re := range []float64{-1024, -1023, -512, -77, -3, -1, 0, 1, 2, 5, 100, 777, 1023, 1024} {
		for _, im := range []float64{-1024, -1021, -333, -2, -1, 0, 1, 3, 64, 999, 1023, 1024} {
			l = append(l, complex(re, im))
		}
	}
	for _, a := range l {
		for _, b := range l {
			if x := phase.Norm(phase.Times(a, b)); x != phase.Norm(a)*phase.Norm(b) {
				t.Fatal(a, b, x)
			}
		}
	}
}

func TestArgumentsStay(t *testing.T) { // P3
	room := []complex128{2, complex(nan, 1), complex(1, 1), 7, 8}
	was := slices.Clone(room)
	phase.Sum(room[:3]...)
	phase.Near(complex(1, 2), room[:3]...)
	if !slices.EqualFunc(room, was, alikes) {
		t.Error(room)
	}
}

func TestExample(t *testing.T) {
	if x := phase.Turn(complex(3, 4), 1); x != complex(-4, 3) {
		t.Error(x)
	}
	if i := phase.Near(complex(1, 1), 2, 1i, 1); i != 1 {
		t.Error(i)
	}
}
