package bits_test

import (
	"math"
	"testing"

	"campanile/api"
	"campanile/bits"
)

// The calls have just these signatures.
var (
	_ func(int) int                  = bits.Low
	_ func(int) int                  = bits.High
	_ func(int, int) int             = bits.Two
	_ func(int) string               = bits.Put
	_ func(int) int                  = bits.Count
	_ func(string) *bits.Reader      = bits.New
	_ func(*bits.Reader) int         = (*bits.Reader).Byte
	_ func(*bits.Reader) int         = (*bits.Reader).Two
	_ func(*bits.Reader, int) string = (*bits.Reader).Text
	_ func(*bits.Reader) int         = (*bits.Reader).Left
	_ func(*bits.Reader) int         = (*bits.Reader).At
	_ func(*bits.Reader) api.Errno   = (*bits.Reader).Err
	_ func(*bits.Writer, int)        = (*bits.Writer).Byte
	_ func(*bits.Writer, int)        = (*bits.Writer).Two
	_ func(*bits.Writer, string)     = (*bits.Writer).Text
	_ func(*bits.Writer) string      = (*bits.Writer).Bytes
	_ func(*bits.Writer) api.Errno   = (*bits.Writer).Err
)

// numbers are some below 0, some above 65535, and the edges.
func numbers() []int {
	out := []int{math.MinInt, math.MinInt + 1, math.MinInt32, math.MaxInt32, math.MaxUint32, math.MaxInt - 1, math.MaxInt}
	for _, n := range []int{0, 256, 65536, 3 * 65536} {
		for d := -3; d <= 3; d++ {
			out = append(out, n+d, -n+d)
		}
	}
	return out
}

// leaves is what n leaves of a number, from 0 on.
func leaves(number, n int) int { return (number%n + n) % n }

func TestLowAndHigh(t *testing.T) { // P2.1
	for n := range 65536 {
		if bits.Low(n) != n%256 || bits.High(n) != n/256 {
			t.Fatal(n, bits.Low(n), bits.High(n))
		}
	}
	for _, n := range numbers() {
		two := leaves(n, 65536)
		if bits.Low(n) != two%256 || bits.High(n) != two/256 {
			t.Fatal(n, bits.Low(n), bits.High(n))
		}
	}
	if bits.Low(-1) != 255 || bits.High(-1) != 255 || bits.High(-256) != 255 || bits.High(-257) != 254 || bits.Low(65536) != 0 {
		t.Fatal("edges")
	}
}

func TestTwo(t *testing.T) { // P2.1
	for n := range 65536 {
		if got := bits.Two(bits.Low(n), bits.High(n)); got != n {
			t.Fatal(n, got)
		}
	}
	for _, low := range numbers() {
		for _, high := range numbers() {
			if got := bits.Two(low, high); got != leaves(low, 256)+256*leaves(high, 256) {
				t.Fatal(low, high, got)
			}
		}
	}
	if bits.Two(1, 2) != 513 || bits.Two(256, -1) != 65280 {
		t.Fatal("edges")
	}
}

func TestPut(t *testing.T) { // P2.1
	if bits.Put(513) != "\x01\x02" || bits.Put(0) != "\x00\x00" || bits.Put(65535) != "\xff\xff" || bits.Put(65536) != "\x00\x00" || bits.Put(-2) != "\xfe\xff" {
		t.Fatal("put")
	}
	for _, n := range numbers() {
		if s := bits.Put(n); len(s) != 2 || int(s[0]) != bits.Low(n) || int(s[1]) != bits.High(n) {
			t.Fatalf("%d %q", n, s)
		}
	}
}

func TestCount(t *testing.T) { // P2.1
	ones := func(n int) int {
		sum := 0
		for two := leaves(n, 65536); two > 0; two /= 2 {
			sum += two % 2
		}
		return sum
	}
	for n := range 65536 {
		if bits.Count(n) != ones(n) {
			t.Fatal(n, bits.Count(n))
		}
	}
	for _, n := range numbers() {
		if bits.Count(n) != ones(n) {
			t.Fatal(n, bits.Count(n))
		}
	}
	if bits.Count(-1) != 16 || bits.Count(65536) != 0 || bits.Count(math.MinInt) != 0 || bits.Count(math.MaxInt) != 16 {
		t.Fatal("edges")
	}
}

// state is all that a reader tells without reading.
type state struct {
	left, at int
	err      api.Errno
}

func of(r *bits.Reader) state { return state{r.Left(), r.At(), r.Err()} }

func TestReader(t *testing.T) { // P2.2
	r := bits.New("\x07\xff\xfe\x00abc")
	if got := of(r); got != (state{7, 0, api.OK}) {
		t.Fatal(got)
	}
	if n := r.Byte(); n != 7 || of(r) != (state{6, 1, api.OK}) {
		t.Fatal(n, of(r))
	}
	if n := r.Two(); n != 0xfeff || of(r) != (state{4, 3, api.OK}) {
		t.Fatal(n, of(r))
	}
	if s := r.Text(0); s != "" || of(r) != (state{4, 3, api.OK}) {
		t.Fatal(s, of(r))
	}
	if s := r.Text(3); s != "\x00ab" || of(r) != (state{1, 6, api.OK}) {
		t.Fatal(s, of(r))
	}
	if s := r.Text(1); s != "c" || of(r) != (state{0, 7, api.OK}) {
		t.Fatal(s, of(r))
	}
	if s := r.Text(0); s != "" || of(r) != (state{0, 7, api.OK}) {
		t.Fatal("nothing is there at the end", s, of(r))
	}
}

// stays: no read changes a reader with an error, nor answers anything.
func stays(t *testing.T, r *bits.Reader, want state) {
	t.Helper()
	for _, n := range append(numbers(), 0, 1, 2) {
		if got := of(r); got != want {
			t.Fatal(got, want)
		}
		if r.Byte() != 0 || r.Two() != 0 || r.Text(n) != "" {
			t.Fatal("something was read", n)
		}
	}
}

func TestReaderEnds(t *testing.T) { // P2.2: too few bytes left
	r := bits.New("")
	if r.Byte() != 0 {
		t.Fatal("byte")
	}
	stays(t, r, state{0, 0, api.ErrEnd})

	r = bits.New("ab")
	r.Byte()
	if r.Two() != 0 {
		t.Fatal("half a number")
	}
	stays(t, r, state{0, 1, api.ErrEnd})

	for _, n := range []int{4, 65536, math.MaxInt - 1, math.MaxInt} {
		r = bits.New("abcd")
		r.Byte()
		if s := r.Text(n); s != "" {
			t.Fatal(n, s)
		}
		stays(t, r, state{0, 1, api.ErrEnd})
	}
}

func TestReaderBelowNought(t *testing.T) { // P2.2
	for _, n := range []int{-1, -2, math.MinInt} {
		r := bits.New("abc")
		r.Two()
		if s := r.Text(n); s != "" {
			t.Fatal(n, s)
		}
		stays(t, r, state{0, 2, api.ErrArg})
	}
	r := bits.New("")
	if r.Text(-1) != "" || r.Err() != api.ErrArg {
		t.Fatal("at the end")
	}
}

func TestWriter(t *testing.T) { // P2.3
	var w bits.Writer
	if w.Bytes() != "" || w.Err() != api.OK {
		t.Fatal("zero")
	}
	w.Text("")
	if w.Bytes() != "" {
		t.Fatal("empty")
	}
	w.Byte(0)
	w.Byte(255)
	w.Two(0)
	w.Two(513)
	w.Two(65535)
	w.Text("a\x00\xff")
	if w.Bytes() != "\x00\xff\x00\x00\x01\x02\xff\xffa\x00\xff" || w.Err() != api.OK {
		t.Fatalf("%q %d", w.Bytes(), w.Err())
	}
	if w.Bytes() != w.Bytes() {
		t.Fatal("telling takes nothing away")
	}
}

func TestWriterWithAnError(t *testing.T) { // P2.3, and P2
	spoil := []func(w *bits.Writer){
		func(w *bits.Writer) { w.Byte(-1) },
		func(w *bits.Writer) { w.Byte(256) },
		func(w *bits.Writer) { w.Byte(math.MinInt) },
		func(w *bits.Writer) { w.Byte(math.MaxInt) },
		func(w *bits.Writer) { w.Two(-1) },
		func(w *bits.Writer) { w.Two(65536) },
		func(w *bits.Writer) { w.Two(math.MinInt) },
		func(w *bits.Writer) { w.Two(math.MaxInt) },
	}
	for i, f := range spoil {
		for _, before := range []string{"", "ab"} {
			w := new(bits.Writer)
			w.Text(before)
			f(w)
			for range 2 {
				if w.Bytes() != "" || w.Err() != api.ErrArg {
					t.Fatal(i, w.Bytes(), w.Err())
				}
				w.Byte(1)
				w.Two(1)
				w.Text("c")
			}
		}
	}
}

func TestNil(t *testing.T) { // P2.3, and P1
	var r *bits.Reader
	stays(t, r, state{0, 0, api.ErrNil})
	var w *bits.Writer
	for _, n := range numbers() {
		w.Byte(n)
		w.Two(n)
		w.Text("abc")
		if w.Bytes() != "" || w.Err() != api.ErrNil {
			t.Fatal(w.Bytes(), w.Err())
		}
	}
}

func TestReadAsWritten(t *testing.T) { // P2.4
	texts := []string{"", "a", "\xff\x00", "campanile"}
	var w bits.Writer
	for n := range 65536 {
		w.Two(n)
		w.Byte(n % 256)
		w.Text(texts[n%4])
	}
	r := bits.New(w.Bytes())
	for n := range 65536 {
		two, one, text := r.Two(), r.Byte(), r.Text(len(texts[n%4]))
		if two != n || one != n%256 || text != texts[n%4] {
			t.Fatal(n, two, one, text)
		}
	}
	if of(r) != (state{0, len(w.Bytes()), api.OK}) || w.Err() != api.OK {
		t.Fatal(of(r))
	}
}

func TestApartFromEachOther(t *testing.T) { // P3, P4, P6: what becomes of one changes nothing of another
	text := "abcdef"
	one, other := bits.New(text), bits.New(text)
	one.Text(4)
	one.Text(9)
	if of(other) != (state{6, 0, api.OK}) || other.Text(6) != "abcdef" || text != "abcdef" {
		t.Fatal(of(other))
	}
	var a, b bits.Writer
	a.Text("abc")
	before := a.Bytes()
	b.Byte(1)
	a.Byte(2)
	if before != "abc" || a.Bytes() != "abc\x02" || b.Bytes() != "\x01" {
		t.Fatal(before, a.Bytes(), b.Bytes())
	}
	a.Byte(256)
	if b.Err() != api.OK || b.Bytes() != "\x01" || before != "abc" {
		t.Fatal(b.Err())
	}
}
