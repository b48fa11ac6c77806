package frame_test

import (
	"math"
	"strings"
	"testing"

	"campanile/api"
	"campanile/crc"
	"campanile/frame"
)

// The calls have just these signatures.
var (
	_ func(frame.Frame) (string, api.Errno) = frame.Print
	_ func(string) (frame.Frame, api.Errno) = frame.Parse
	_ func(int) int                         = frame.Size
	_ func(string, int) bool                = frame.For
	_                                       = struct {
		To, From int
		Data     string
	}(frame.Frame{})
)

// extremes are numbers of which some go round if anything is added to them.
var extremes = []int{math.MinInt, math.MinInt + 1, math.MinInt32, -1, math.MaxInt32, math.MaxInt - 1, math.MaxInt}

// macs are numbers that may be whom a frame is for, and such that may not.
var macs = append([]int{0, 1, 2, 7, 127, 128, 254, 255, 256, 257, 512, -256, 1 << 32}, extremes...)

// data is n bytes, of all kinds.
func data(n int) string {
	b := make([]byte, n)
	for i := range b {
		b[i] = byte(i*i*37 + n*91 + 11)
	}
	return string(b)
}

// bytesOf is a text of numbers.
func bytesOf(l ...int) string {
	var b []byte
	for _, n := range l {
		b = append(b, byte(n))
	}
	return string(b)
}

// told is a right frame's bytes, from the document's words.
func told(f frame.Frame) string {
	return crc.Seal(bytesOf(f.To, f.From, len(f.Data)) + f.Data)
}

// frames are right ones, with data of all lengths that may be.
func frames() []frame.Frame {
	out := []frame.Frame{{}, {Data: "\x00"}, {To: 255, From: 255, Data: strings.Repeat("\xff", api.Burst)}, {To: 7, From: 9, Data: "hi"}}
	for n := range api.Burst + 1 {
		out = append(out, frame.Frame{To: n * 8 % 256, From: 255 - n*5, Data: data(n)})
	}
	return out
}

// print is the bytes of a frame that is right.
func print(t *testing.T, f frame.Frame) string {
	t.Helper()
	s, e := frame.Print(f)
	if e != api.OK {
		t.Fatal(f, e)
	}
	return s
}

func TestPrint(t *testing.T) { // P11.1
	for _, f := range frames() {
		if s := print(t, f); s != told(f) {
			t.Errorf("%v %q", f, s)
		}
	}
	for to := range 256 {
		for from := range 256 {
			f := frame.Frame{To: to, From: from, Data: "x"}
			if s := print(t, f); s != told(f) {
				t.Fatalf("%v %q", f, s)
			}
		}
	}
}

// P11.1, P2: ErrArg is the first one, and with an error there is nothing.
func TestPrintErrors(t *testing.T) {
	lengths := []int{0, 1, 31, 32, 33, 34, 255, 256, 257, 288, 65536, 1 << 20}
	for _, to := range macs {
		for _, from := range macs {
			for _, n := range lengths {
				f := frame.Frame{To: to, From: from, Data: strings.Repeat("d", n)}
				want := api.OK
				switch {
				case to < 0 || to > 255 || from < 0 || from > 255:
					want = api.ErrArg
				case n > api.Burst:
					want = api.ErrLimit
				}
				s, e := frame.Print(f)
				if e != want || (s == "") != (e != api.OK) {
					t.Fatalf("%d %d %d: %q %d, not %d", to, from, n, s, e, want)
				}
			}
		}
	}
}

func TestSize(t *testing.T) { // P11.1
	numbers := append([]int{33, 34, 37, 255, 256, 1 << 32, 1<<32 + 1}, extremes...)
	for n := -40; n < 300; n++ {
		numbers = append(numbers, n)
	}
	for _, n := range numbers {
		want := 0
		if n >= 0 && n <= 32 {
			want = len(print(t, frame.Frame{Data: data(n)}))
		}
		if got := frame.Size(n); got != want {
			t.Error(n, got, want)
		}
	}
	if frame.Size(0) != 5 || frame.Size(32) != 37 {
		t.Error(frame.Size(0), frame.Size(32))
	}
}

// parse is what bytes are, from the document's words.
func parse(s string) (frame.Frame, api.Errno) {
	if len(s) < 3 {
		return frame.Frame{}, api.ErrEnd
	}
	n := int(s[2])
	if n > 32 {
		return frame.Frame{}, api.ErrLimit
	}
	if len(s) < n+5 {
		return frame.Frame{}, api.ErrEnd
	}
	if len(s) > n+5 {
		return frame.Frame{}, api.ErrForm
	}
	f := frame.Frame{To: int(s[0]), From: int(s[1]), Data: s[3 : 3+n]}
	if s != told(f) {
		return frame.Frame{}, api.ErrCheck
	}
	return f, api.OK
}

func testParse(t *testing.T, s string) {
	t.Helper()
	want, e := parse(s)
	if f, err := frame.Parse(s); f != want || err != e {
		t.Fatalf("%q: %v %d, not %v %d", s, f, err, want, e)
	}
}

// P11.2: ends of frames, what stands behind them, and all third bytes.
func TestParse(t *testing.T) {
	for _, f := range frames() {
		s := told(f)
		for n := range len(s) + 1 {
			testParse(t, s[:n])
			testParse(t, s[n:])
		}
		for _, more := range []string{"\x00", "x", s, s[len(s)-2:], strings.Repeat("y", 300)} {
			testParse(t, s+more)
			testParse(t, more+s)
		}
		for third := range 256 {
			testParse(t, s[:2]+bytesOf(third)+s[3:])
		}
	}
	for a := range 256 {
		testParse(t, bytesOf(a))
		for b := range 256 {
			testParse(t, bytesOf(a, b))
			testParse(t, bytesOf(9, a, b))
			testParse(t, bytesOf(a, 9, b)+data(20))
		}
	}
}

// P11.2: which error is told, where several are.
func TestParseErrors(t *testing.T) {
	right := told(frame.Frame{To: 1, From: 2, Data: "abc"})
	for _, c := range []struct {
		s string
		e api.Errno
	}{
		{"", api.ErrEnd},
		{"\xff\xff", api.ErrEnd},
		{"\x01\x02\x00", api.ErrEnd},
		{"\x01\x02\x20", api.ErrEnd},
		{"\x01\x02\x21", api.ErrLimit}, // there are too few bytes, too
		{"\x01\x02\xff", api.ErrLimit},
		{"\x01\x02\x21" + strings.Repeat("x", 35), api.ErrLimit},           // its check is not right, too
		{crc.Seal("\x01\x02\x21" + strings.Repeat("x", 33)), api.ErrLimit}, // its check is right
		{"\x01\x02\x21" + strings.Repeat("x", 50), api.ErrLimit},           // there are too many bytes, too
		{right[:len(right)-1], api.ErrEnd},                                 // its check is not right, too
		{crc.Seal("\x01\x02\x03ab"), api.ErrEnd},                           // its check is right
		{right + "x", api.ErrForm},
		{crc.Seal(right), api.ErrForm},
		{crc.Seal("\x01\x02\x03abcd"), api.ErrForm},
		{right[:len(right)-1] + "?", api.ErrCheck},
		{right[:len(right)-2] + bytesOf(int(right[len(right)-1]), int(right[len(right)-2])), api.ErrCheck}, // the lower one first
		{right, api.OK},
	} {
		testParse(t, c.s)
		if _, e := frame.Parse(c.s); e != c.e {
			t.Errorf("%q: %d, not %d", c.s, e, c.e)
		}
	}
}

// P11.2: of all checks just one is right.
func TestParseOfAllChecks(t *testing.T) {
	for _, f := range []frame.Frame{{}, {To: 7, From: 9, Data: "hi"}} {
		right := told(f)
		ahead := right[:len(right)-2]
		n := 0
		for sum := range 65536 {
			s := ahead + bytesOf(sum/256, sum%256)
			switch g, e := frame.Parse(s); {
			case s == right && g == f && e == api.OK:
				n++
			case s == right || g != (frame.Frame{}) || e != api.ErrCheck:
				t.Fatalf("%q %v %d", s, g, e)
			}
		}
		if n != 1 {
			t.Fatal(f, n)
		}
	}
}

// P11.2: no bit of a frame may be turned.
func TestParseOfTurnedBits(t *testing.T) {
	for _, f := range frames() {
		s := told(f)
		for i := range 8 * len(s) {
			b := []byte(s)
			b[i/8] ^= 1 << (i % 8)
			testParse(t, string(b))
			if g, e := frame.Parse(string(b)); e == api.OK || frame.For(string(b), g.To) || frame.For(string(b), f.To) {
				t.Fatalf("%q %d", s, i)
			}
		}
	}
}

func TestFor(t *testing.T) { // P11.2
	for _, f := range frames() {
		s := told(f)
		numbers := append([]int{f.To + 256, f.To - 256, f.To + 1<<32}, extremes...)
		for mac := -2; mac < 260; mac++ {
			numbers = append(numbers, mac)
		}
		for _, mac := range numbers {
			if frame.For(s, mac) != (mac == f.To) {
				t.Fatal(f, mac)
			}
			for _, no := range []string{"", s[:2], s[:len(s)-1], s + "x", s[:len(s)-2] + bytesOf(1^int(s[len(s)-2]), int(s[len(s)-1]))} {
				if frame.For(no, mac) {
					t.Fatalf("%q is no frame's bytes %d", no, mac)
				}
			}
		}
	}
	if frame.For("", 0) || frame.For("\x00\x00\x00", 0) || frame.For("\x00\x00\x21", 0) {
		t.Fatal("an error is no frame for 0")
	}
}

// P11.3: what was printed is parsed as it was; what is parsed is printed as those bytes.
func TestThereAndBack(t *testing.T) {
	for _, f := range frames() {
		s := print(t, f)
		g, e := frame.Parse(s)
		if g != f || e != api.OK {
			t.Fatal(f, g, e)
		}
		if x := print(t, g); x != s {
			t.Fatalf("%q %q", s, x)
		}
	}
	state := uint32(1)
	for range 20000 {
		state = state*1664525 + 1013904223
		n := int(state >> 16 % 36)
		s := crc.Seal(bytesOf(int(state>>8), int(state>>24), n) + data(n))
		f, e := frame.Parse(s)
		if (n <= 32) != (e == api.OK) {
			t.Fatalf("%q %d", s, e)
		}
		if e == api.OK && print(t, f) != s {
			t.Fatalf("%q %v", s, f)
		}
	}
}

func TestExample(t *testing.T) {
	f := frame.Frame{To: 7, From: 9, Data: "hi"}
	if s := print(t, f); s != crc.Seal("\x07\x09\x02hi") || len(s) != 7 {
		t.Fatalf("%q", s)
	}
}
