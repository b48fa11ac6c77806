package tone_test

import (
	"math"
	"slices"
	"strings"
	"testing"

	"campanile/api"
	"campanile/phase"
	"campanile/tone"
)

// The calls have just these signatures.
var (
	_ func(int) complex128                         = tone.Symbol
	_ func(complex128) int                         = tone.Says
	_ func(int) [4]complex128                      = tone.Tones
	_ func([4]complex128) (int, api.Errno)         = tone.Byte
	_ func(string) []complex128                    = tone.Line
	_ func([]complex128) (string, int, api.Errno)  = tone.Read
	_ func([]complex128) float64                   = tone.Margin
	_ func(l []complex128, s string) (quarter int) = tone.Align
)

var (
	inf = math.Inf(1)
	nan = math.NaN()
)

// extremes are numbers of which some go round if anything is added to them, or turned.
var extremes = []int{math.MinInt, math.MinInt + 1, math.MinInt32, -1, math.MaxInt32, math.MaxInt - 1, math.MaxInt}

// symbols are those of 0, 1, 2, 3, from the document's words.
var symbols = [4]complex128{complex(1, 1), complex(-1, 1), complex(1, -1), complex(-1, -1)}

// silent are numbers that say nothing.
var silent = []complex128{
	0, 1, -1, 1i, -1i, complex(math.Copysign(0, -1), 1), complex(1, nan), complex(nan, -1), complex(nan, nan), complex(inf, 0),
}

// allBytes is a text with each byte in it.
func allBytes() string {
	var b strings.Builder
	for i := range 256 {
		b.WriteByte(byte(i))
	}
	return b.String()
}

// texts are of all bytes, and of some lengths.
var texts = []string{"", "A", "\x00", "\xff", "Az", "ok!", "\x1b\xe4", "\x80\x00\x7f\xff\x01", allBytes()}

// leaves is what n leaves of a number, from 0 on.
func leaves(x, n int) int { return (x%n + n) % n }

func TestSymbol(t *testing.T) { // P10.1
	for _, two := range append([]int{-9, -8, -7, -6, -5, -4, -3, -2, 0, 1, 2, 3, 4, 5, 6, 7, 1<<40 + 2}, extremes...) {
		if z := tone.Symbol(two); z != symbols[leaves(two, 4)] {
			t.Error(two, z)
		}
	}
}

func TestSays(t *testing.T) { // P10.1
	for two, z := range symbols {
		if q := phase.Quarter(z); q != [4]int{0, 1, 3, 2}[two] {
			t.Error("not in its quarter", z, q)
		}
		for _, re := range []float64{1, 0.5, 7, math.SmallestNonzeroFloat64, math.MaxFloat64, inf} {
			for _, im := range []float64{1, 0.25, 9, math.SmallestNonzeroFloat64, math.MaxFloat64, inf} {
				x := complex(re*real(z), im*imag(z))
				if n := tone.Says(x); n != two {
					t.Error(x, n, two)
				}
			}
		}
	}
	for _, z := range silent {
		if n := tone.Says(z); n != -1 {
			t.Error(z, n)
		}
	}
}

func TestTones(t *testing.T) { // P10.1
	for _, b := range append([]int{-1024, -257, -256, -255, 0, 27, 228, 255, 256, 257, 1<<40 + 100}, extremes...) {
		testTones(t, b)
	}
	for b := range 256 {
		testTones(t, b)
	}
}

func testTones(t *testing.T, b int) {
	t.Helper()
	n := leaves(b, 256)
	want := [4]complex128{symbols[n/64], symbols[n/16%4], symbols[n/4%4], symbols[n%4]}
	got := tone.Tones(b)
	if got != want {
		t.Error(b, got, want)
	}
	if x, e := tone.Byte(got); x != n || e != api.OK {
		t.Error(b, x, e)
	}
}

func TestByte(t *testing.T) { // P10.1
	for _, z := range silent {
		for i := range 4 {
			l := tone.Tones(0xb7)
			l[i] = z
			if b, e := tone.Byte(l); b != 0 || e != api.ErrForm {
				t.Error(l, b, e)
			}
		}
	}
	if b, e := tone.Byte([4]complex128{}); b != 0 || e != api.ErrForm {
		t.Error(b, e)
	}
	if b, e := tone.Byte([4]complex128{complex(0.1, -7), complex(-inf, -0.5), complex(-3, 9), complex(2, 2)}); b != 0xb4 || e != api.OK {
		t.Error(b, e)
	}
}

func TestLine(t *testing.T) { // P10.2
	for _, s := range texts {
		var want []complex128
		for i := range len(s) {
			n := tone.Tones(int(s[i]))
			want = append(want, n[:]...)
		}
		if l := tone.Line(s); !slices.Equal(l, want) {
			t.Errorf("%q %v", s, l)
		}
	}
}

func TestRead(t *testing.T) { // P10.2
	for _, s := range texts {
		l := tone.Line(s)
		if len(l) > 64 {
			l = l[:64]
		}
		for n := range len(l) + 1 {
			want, e, end := s[:n/4], api.OK, 0
			if n%4 != 0 {
				want, e, end = "", api.ErrEnd, n
			}
			if x, i, err := tone.Read(l[:n]); x != want || i != end || err != e {
				t.Errorf("%q %d: %q %d %d", s, n, x, i, err)
			}
			for i := range n {
				testReadSilent(t, l[:n], i)
			}
		}
	}
	if s, i, e := tone.Read(nil); s != "" || i != 0 || e != api.OK {
		t.Error(s, i, e)
	}
}

// testReadSilent reads a line of which the symbol at a place says nothing, and some of those behind it too.
func testReadSilent(t *testing.T, l []complex128, at int) {
	t.Helper()
	x := slices.Clone(l)
	for i := at; i < len(x); i += 3 {
		x[i] = silent[i%len(silent)]
	}
	if s, i, e := tone.Read(x); s != "" || i != at || e != api.ErrForm {
		t.Errorf("%v: %q %d %d, not %d", x, s, i, e, at)
	}
}

func TestMargin(t *testing.T) { // P10.3
	tiny := math.SmallestNonzeroFloat64
	for _, c := range []struct {
		l    []complex128
		want float64
	}{
		{nil, 0},
		{[]complex128{}, 0},
		{tone.Line("any"), 1},
		{[]complex128{complex(0.25, -7)}, 0.25},
		{[]complex128{complex(-7, -0.25)}, 0.25},
		{[]complex128{complex(3, 4), complex(-2, 5), complex(6, -2.5)}, 2},
		{[]complex128{complex(3, 4), complex(5, -2), complex(-6, 2.5)}, 2},
		{[]complex128{complex(-2, 4), complex(5, 3)}, 2},
		{[]complex128{complex(1, tiny), complex(5, 3)}, tiny},
		{[]complex128{complex(inf, -inf)}, inf},
		{[]complex128{complex(-inf, math.MaxFloat64)}, math.MaxFloat64},
	} {
		if x := tone.Margin(c.l); x != c.want || math.Signbit(x) {
			t.Error(c.l, x, c.want)
		}
	}
	for _, z := range silent {
		for i := range 3 {
			l := []complex128{complex(3, 4), complex(-2, 5), complex(6, -2.5)}
			l[i] = z
			if x := tone.Margin(l); x != 0 || math.Signbit(x) {
				t.Error(l, x)
			}
		}
	}
}

// turned is a line that is turned by quarters.
func turned(l []complex128, k int) []complex128 {
	var out []complex128
	for _, z := range l {
		out = append(out, phase.Turn(z, k))
	}
	return out
}

// align is by how many quarters a line must be turned, from the document's words.
func align(l []complex128, s string) int {
	if len(l) < 4*len(s) {
		return -1
	}
	for k := range 4 {
		if said, _, e := tone.Read(turned(l[:4*len(s)], k)); said == s && e == api.OK {
			return k
		}
	}
	return -1
}

func TestAlign(t *testing.T) { // P10.3
	for _, s := range texts {
		for k := range 4 {
			l := turned(tone.Line(s+"more"), k)
			for _, says := range []string{s, s + "m", s + "x", "x" + s, s + "more", s + "more!", "", "\x00", "\xff", "\xaa\xaa"} {
				if x := tone.Align(l, says); x != align(l, says) {
					t.Errorf("%q by %d, %q: %d, not %d", s, k, says, x, align(l, says))
				}
			}
		}
	}
}

func TestAlignEdges(t *testing.T) { // P10.3
	l := turned(tone.Line("ok!"), 3)
	for _, c := range []struct {
		l    []complex128
		s    string
		want int
	}{
		{l, "ok", 1}, {l, "ok!", 1}, {l, "no", -1}, {l, "ok!!", -1}, {l, "", 0},
		{nil, "", 0}, {nil, "a", -1}, {[]complex128{}, "", 0},
		{l[:8], "ok", 1}, {l[:7], "ok", -1}, {l[:3], "", 0},
		{append(slices.Clone(l[:4]), 0, complex(nan, 1)), "o", 1}, // what is behind may say nothing
		{append(slices.Clone(l[:7]), 0), "ok", -1},
		{append(slices.Clone(l[:7]), complex(nan, 1)), "ok", -1},
		{append([]complex128{0}, l...), "ok", -1},
		{[]complex128{0}, "", 0},
		{append(slices.Clone(l[:4]), turned(l[4:8], 1)...), "ok", -1}, // all are turned alike
	} {
		if x := tone.Align(c.l, c.s); x != c.want {
			t.Errorf("%v %q: %d, not %d", c.l, c.s, x, c.want)
		}
	}
}

func TestLineIsRead(t *testing.T) { // P10.4
	most := math.Nextafter(1, 0)
	offs := []float64{0, 0.5, -0.5, most, -most, 0.9, -0.1, -0.999}
	for n, s := range texts {
		l := tone.Line(s)
		for i := range l {
			l[i] += complex(offs[(i+n)%8], offs[(i/3+n)%8])
		}
		if x, i, e := tone.Read(l); x != s || i != 0 || e != api.OK {
			t.Errorf("%q: %q %d %d", s, x, i, e)
		}
	}
}

func TestLineIsAligned(t *testing.T) { // P10.5
	for _, s := range texts {
		for k := range 12 {
			want := (12 - k) % 4
			if s == "" {
				want = 0
			}
			if x := tone.Align(turned(tone.Line(s), k), s); x != want {
				t.Errorf("%q by %d: %d", s, k, x)
			}
		}
	}
}

func TestArgumentsStay(t *testing.T) { // P3
	room := append(turned(tone.Line("ok"), 2), 7, 8)
	was := slices.Clone(room)
	tone.Read(room[:8])
	tone.Margin(room[:8])
	tone.Align(room[:8], "ok")
	if !slices.Equal(room, was) {
		t.Error(room)
	}
	a, b := tone.Line("ok"), tone.Line("ok")
	a[0] = 9
	_ = append(a, 5)
	if b[0] == 9 || tone.Symbol(1) != complex(-1, 1) || !slices.Equal(b, tone.Line("ok")) {
		t.Error("a line is not of its own")
	}
}

func TestExample(t *testing.T) {
	if x := tone.Tones(27); x != [4]complex128{complex(1, 1), complex(-1, 1), complex(1, -1), complex(-1, -1)} {
		t.Error(x)
	}
}
