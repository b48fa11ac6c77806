package crc_test

import (
	"math"
	"strings"
	"testing"

	"campanile/api"
	"campanile/crc"
)

// The calls have just these signatures.
var (
	_ func(int, int) int               = crc.Step
	_ func(string) int                 = crc.Sum
	_ func(string) string              = crc.Seal
	_ func(string) (string, api.Errno) = crc.Open
	_ func(string, string) int         = crc.Bits
)

// extremes are numbers of which some go round if anything is done to them.
var extremes = []int{math.MinInt, math.MinInt + 1, math.MinInt32, -65537, -65536, -257, -256, -255, -1,
	256, 65536, 65537, math.MaxInt32, math.MaxUint32, math.MaxInt - 1, math.MaxInt}

// texts are some of all lengths up to a burst's and a little more, no two of
// which are alike.
func texts() []string {
	out := []string{"", "\x00", "\xff", "123456789", "hello", strings.Repeat("\x00", 40), strings.Repeat("\xff", 40)}
	for n := range 45 {
		b := make([]byte, n)
		for i := range b {
			b[i] = byte(i*i*37 + n*91 + 11)
		}
		out = append(out, string(b))
	}
	return out
}

// leaves is what n leaves of a number, from 0 on.
func leaves(number, n int) int { return (number%n + n) % n }

// bitsOf is a text's bits, from each byte's highest one on.
func bitsOf(s string) []bool {
	var out []bool
	for i := range len(s) {
		for place := 128; place > 0; place /= 2 {
			out = append(out, int(s[i])/place%2 == 1)
		}
	}
	return out
}

// told is the check of bits behind a sum, by the document's words.
func told(sum int, bits []bool) int {
	for _, b := range bits {
		high := sum >= 32768
		sum = sum * 2 % 65536
		if high != b {
			sum ^= 4129
		}
	}
	return sum
}

// turned is a text some of whose bits are turned: those of a pattern, from a bit on.
func turned(s string, from int, pattern uint) string {
	b := []byte(s)
	for at := from; pattern > 0; at, pattern = at+1, pattern>>1 {
		if pattern&1 == 1 {
			b[at/8] ^= 128 >> (at % 8)
		}
	}
	return string(b)
}

func TestStep(t *testing.T) { // P8.1
	for b := range 256 {
		bits := bitsOf(string([]byte{byte(b)}))
		for sum := 0; sum < 65536; sum += 17 {
			if got, want := crc.Step(sum, b), told(sum, bits); got != want {
				t.Fatal(sum, b, got, want)
			}
		}
	}
	if crc.Step(0, 0) != 0 || crc.Step(0, 1) != 4129 || crc.Step(256, 0) != 4129 || crc.Step(65535, 255) != 65280 {
		t.Fatal("by hand")
	}
}

// P8.1: of sum as of what 65536 leaves of it, of b as of what 256 leaves, both from 0 on.
func TestStepOfAnyNumbers(t *testing.T) {
	numbers := append([]int{0, 1, 2, 127, 128, 255, 32767, 32768, 65535}, extremes...)
	for _, sum := range numbers {
		for _, b := range numbers {
			got, want := crc.Step(sum, b), crc.Step(leaves(sum, 65536), leaves(b, 256))
			if got != want || got < 0 || got > 65535 {
				t.Fatal(sum, b, got, want)
			}
		}
	}
}

func TestSum(t *testing.T) { // P8.1
	for _, s := range texts() {
		if got, want := crc.Sum(s), told(65535, bitsOf(s)); got != want {
			t.Fatalf("%q %d %d", s, got, want)
		}
		step := 65535
		for i := range len(s) {
			step = crc.Step(step, int(s[i]))
		}
		if got := crc.Sum(s); got != step {
			t.Fatalf("%q %d %d", s, got, step)
		}
	}
	if crc.Sum("") != 65535 {
		t.Fatal("of nothing", crc.Sum(""))
	}
}

func TestSeal(t *testing.T) { // P8.1
	for _, s := range texts() {
		sum := crc.Sum(s)
		if got, want := crc.Seal(s), s+string([]byte{byte(sum / 256), byte(sum % 256)}); got != want {
			t.Fatalf("%q %q %q", s, got, want)
		}
	}
	if got := crc.Seal(""); got != "\xff\xff" {
		t.Fatalf("%q", got)
	}
	if got := crc.Seal("123456789"); got != "123456789\x29\xb1" {
		t.Fatalf("%q", got)
	}
}

// P8.3: what was sealed is opened; Sum of what was sealed is 0.
func TestWhatWasSealed(t *testing.T) {
	for _, s := range texts() {
		sealed := crc.Seal(s)
		if got, e := crc.Open(sealed); got != s || e != api.OK {
			t.Fatalf("%q %q %d", s, got, e)
		}
		if sum := crc.Sum(sealed); sum != 0 {
			t.Fatalf("%q %d", s, sum)
		}
		twice := crc.Seal(sealed)
		if got, e := crc.Open(twice); got != sealed || e != api.OK {
			t.Fatalf("%q %q %d", twice, got, e)
		}
	}
}

func TestOpenOfTooFew(t *testing.T) { // P8.1
	if s, e := crc.Open(""); s != "" || e != api.ErrEnd {
		t.Fatal(s, e)
	}
	for b := range 256 {
		if s, e := crc.Open(string([]byte{byte(b)})); s != "" || e != api.ErrEnd {
			t.Fatal(b, s, e)
		}
	}
}

// P8.1, P2: of all last two bytes just one is right; with the others nothing is answered.
func TestOpenOfAllEnds(t *testing.T) {
	for _, s := range []string{"", "a", "\x00", "hello"} {
		for n := range 65536 {
			got, e := crc.Open(s + string([]byte{byte(n / 256), byte(n % 256)}))
			switch {
			case n == crc.Sum(s) && (got != s || e != api.OK):
				t.Fatalf("%q %d %q %d", s, n, got, e)
			case n != crc.Sum(s) && (got != "" || e != api.ErrCheck):
				t.Fatalf("%q %d %q %d", s, n, got, e)
			}
		}
	}
	// The lower byte first is not right, nor is a check that is not the last.
	for _, s := range []string{"123456789\xb1\x29", "\x29\xb1123456789", "123456789\x29\xb1\x01"} {
		if got, e := crc.Open(s); got != "" || e != api.ErrCheck {
			t.Fatalf("%q %q %d", s, got, e)
		}
	}
}

// P8.4: whichever bits are turned, all within 16 that stand one behind the other.
func TestTurnedBits(t *testing.T) {
	for _, s := range []string{"", "a", "h\x00i"} {
		sealed := crc.Seal(s)
		for from := range 8*len(sealed) - 15 {
			for pattern := uint(1); pattern < 65536; pattern++ {
				x := turned(sealed, from, pattern)
				if got, e := crc.Open(x); got != "" || e != api.ErrCheck {
					t.Fatalf("%q %q %q %d", sealed, x, got, e)
				}
			}
		}
	}
}

// P8.4: likewise in longer texts, with some patterns that fill their bits or stand at the ends of them.
func TestTurnedBitsOfLongTexts(t *testing.T) {
	for _, s := range texts() {
		sealed := crc.Seal(s)
		for from := range 8*len(sealed) - 15 {
			for _, pattern := range []uint{1, 3, 0x8001, 0x8000, 0xffff, 0x1021, 0x8408, 0xa5a5} {
				x := turned(sealed, from, pattern)
				if got, e := crc.Open(x); got != "" || e != api.ErrCheck {
					t.Fatalf("%q %q %q %d", sealed, x, got, e)
				}
			}
		}
	}
}

func TestBits(t *testing.T) { // P8.2
	for a := range 256 {
		for b := range 256 {
			x, y := string([]byte{'m', byte(a), 'n'}), string([]byte{'m', byte(b), 'n'})
			want, l := 0, bitsOf(y)
			for i, is := range bitsOf(x) {
				if is != l[i] {
					want++
				}
			}
			if got := crc.Bits(x, y); got != want {
				t.Fatal(a, b, got, want)
			}
		}
	}
	zeros, ones := strings.Repeat("\x00", 10000), strings.Repeat("\xff", 10000)
	if crc.Bits(zeros, ones) != 80000 || crc.Bits(ones, zeros) != 80000 || crc.Bits(ones, ones) != 0 {
		t.Fatal("long ones")
	}
	if crc.Bits("\x01\x80\x00", "\x00\x00\x07") != 5 || crc.Bits("", "") != 0 {
		t.Fatal("of all bytes together")
	}
}

// P8.2: -1, if their lengths are unlike, whatever they have in common.
func TestBitsOfUnlikeLengths(t *testing.T) {
	for _, l := range [][2]string{{"", "a"}, {"a", ""}, {"ab", "a"}, {"a", "ab"}, {"\x00", "\x00\x00"}, {"\x00\x00\x00", ""}} {
		if n := crc.Bits(l[0], l[1]); n != -1 {
			t.Fatal(l, n)
		}
	}
}

func TestExample(t *testing.T) {
	if n := crc.Sum("123456789"); n != 10673 {
		t.Fatal(n)
	}
}
