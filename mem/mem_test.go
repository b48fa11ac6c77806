package mem_test

import (
	"math"
	"slices"
	"strings"
	"testing"

	"campanile/api"
	"campanile/mem"
)

// The calls have just these signatures.
var (
	_ func(int) *mem.Memory                           = mem.New
	_ func(*mem.Memory) int                           = (*mem.Memory).Size
	_ func(*mem.Memory, int) (int, api.Errno)         = (*mem.Memory).Get
	_ func(*mem.Memory, int, int) api.Errno           = (*mem.Memory).Set
	_ func(*mem.Memory, int) (int, api.Errno)         = (*mem.Memory).Get2
	_ func(*mem.Memory, int, int) api.Errno           = (*mem.Memory).Set2
	_ func(*mem.Memory, int, int) (string, api.Errno) = (*mem.Memory).Text
	_ func(*mem.Memory, int, string) api.Errno        = (*mem.Memory).Put
	_ func(*mem.Memory) *mem.Memory                   = (*mem.Memory).Fork
	_ func(*mem.Memory, *mem.Memory) []api.Span       = mem.Diff
)

func sp(from, to int) api.Span { return api.Span{From: from, To: to} }

// sizes are those of the memories that the tests go through.
var sizes = []int{0, 1, 2, 3, 10, api.Physical - 1, api.Physical}

// ends are places at the ends of a memory, and such that are not there.
func ends(size int) []int {
	out := []int{math.MinInt, math.MinInt + 1, math.MinInt32, math.MaxInt32, math.MaxInt - 1, math.MaxInt}
	for d := -3; d <= 3; d++ {
		out = append(out, d, size/2+d, size+d)
	}
	return out
}

// numbers are bytes, numbers of two, and such that are neither.
func numbers() []int {
	out := []int{math.MinInt, math.MinInt + 1, -65537, -65536, -65535, -258, math.MaxInt32, math.MaxInt - 1, math.MaxInt}
	for d := -2; d <= 2; d++ {
		out = append(out, d, 256+d, 513+d, 65536+d, 65536+513+d)
	}
	return out
}

// leaves is what n leaves of a number, from 0 on.
func leaves(number, n int) int { return (number%n + n) % n }

// fits says by the document's words whether n places from at on are there.
func fits(size, at, n int) bool {
	return 0 <= at && at <= size && n <= size-at
}

// all is a memory's bytes.
func all(t *testing.T, m *mem.Memory) string {
	t.Helper()
	s, e := m.Text(0, m.Size())
	if e != api.OK || len(s) != m.Size() {
		t.Fatal(m.Size(), len(s), e)
	}
	return s
}

// some is bytes that are not alike.
func some(n int) string {
	out := make([]byte, n)
	for i := range out {
		out[i] = byte(i*37 + 11)
	}
	return string(out)
}

// filled is a memory with some bytes in it.
func filled(t *testing.T, size int) *mem.Memory {
	t.Helper()
	m := mem.New(size)
	if e := m.Put(0, some(size)); e != api.OK {
		t.Fatal(size, e)
	}
	return m
}

// with is bytes, of which those at a place are others.
func with(s string, at int, other string) string {
	return s[:at] + other + s[at+len(other):]
}

func TestNew(t *testing.T) { // P3.1
	cases := []struct{ size, want int }{
		{math.MinInt, 0}, {-1, 0}, {0, 0}, {1, 1}, {10, 10},
		{api.Physical - 1, api.Physical - 1}, {api.Physical, api.Physical}, {api.Physical + 1, api.Physical}, {math.MaxInt, api.Physical},
	}
	for _, c := range cases {
		m := mem.New(c.size)
		if m == nil || m.Size() != c.want {
			t.Fatal(c, m.Size())
		}
		if all(t, m) != strings.Repeat("\x00", c.want) {
			t.Fatal(c, "all are 0 at first")
		}
	}
}

func TestGet(t *testing.T) { // P3.1
	for _, size := range sizes {
		m := filled(t, size)
		for _, at := range ends(size) {
			n, e := m.Get(at)
			switch there := fits(size, at, 1); {
			case there && (e != api.OK || n != int(some(size)[at])):
				t.Fatal(size, at, n, e)
			case !there && (e != api.ErrRange || n != 0):
				t.Fatal(size, at, n, e)
			}
		}
		if all(t, m) != some(size) {
			t.Fatal(size, "reading changes nothing")
		}
	}
}

func TestSet(t *testing.T) { // P3.1, P3.4
	for _, size := range sizes {
		for _, at := range ends(size) {
			m := filled(t, size)
			want := some(size)
			for _, n := range numbers() {
				e := m.Set(at, n)
				if fits(size, at, 1) {
					want = with(want, at, string([]byte{byte(leaves(n, 256))}))
					if got, f := m.Get(at); e != api.OK || f != api.OK || got != leaves(n, 256) {
						t.Fatal(size, at, n, e, got, f)
					}
				} else if e != api.ErrRange {
					t.Fatal(size, at, n, e)
				}
				if all(t, m) != want {
					t.Fatal(size, at, n, "other places have changed")
				}
			}
		}
	}
}

func TestGet2(t *testing.T) { // P3.1
	for _, size := range sizes {
		m := filled(t, size)
		for _, at := range ends(size) {
			n, e := m.Get2(at)
			switch there := fits(size, at, 2); {
			case there && (e != api.OK || n != int(some(size)[at])+256*int(some(size)[at+1])):
				t.Fatal(size, at, n, e)
			case !there && (e != api.ErrRange || n != 0):
				t.Fatal(size, at, n, e)
			}
		}
		if all(t, m) != some(size) {
			t.Fatal(size, "reading changes nothing")
		}
	}
}

func TestSet2(t *testing.T) { // P3.1, P3.4
	for _, size := range sizes {
		for _, at := range ends(size) {
			m := filled(t, size)
			want := some(size)
			for _, n := range numbers() {
				e := m.Set2(at, n)
				if fits(size, at, 2) {
					two := leaves(n, 65536)
					want = with(want, at, string([]byte{byte(two % 256), byte(two / 256)}))
					if got, f := m.Get2(at); e != api.OK || f != api.OK || got != two {
						t.Fatal(size, at, n, e, got, f)
					}
				} else if e != api.ErrRange {
					t.Fatal(size, at, n, e)
				}
				if all(t, m) != want {
					t.Fatal(size, at, n, "other places have changed")
				}
			}
		}
	}
	m := mem.New(10) // the document's example
	if m.Set2(2, 513) != api.OK || all(t, m) != "\x00\x00\x01\x02\x00\x00\x00\x00\x00\x00" || m.Set2(9, 513) != api.ErrRange {
		t.Fatalf("%q", all(t, m))
	}
}

func TestText(t *testing.T) { // P3.2
	for _, size := range sizes {
		m := filled(t, size)
		for _, at := range ends(size) {
			for _, n := range ends(size) {
				s, e := m.Text(at, n)
				switch {
				case n < 0:
					if e != api.ErrArg || s != "" {
						t.Fatal(size, at, n, len(s), e)
					}
				case !fits(size, at, n):
					if e != api.ErrRange || s != "" {
						t.Fatal(size, at, n, len(s), e)
					}
				case e != api.OK || s != some(size)[at:at+n]:
					t.Fatal(size, at, n, len(s), e)
				}
			}
		}
		if all(t, m) != some(size) {
			t.Fatal(size, "reading changes nothing")
		}
	}
}

func TestTextOfNoBytes(t *testing.T) { // P3.2
	m := filled(t, 10)
	for at, want := range map[int]api.Errno{-1: api.ErrRange, 0: api.OK, 9: api.OK, 10: api.OK, 11: api.ErrRange, math.MaxInt: api.ErrRange, math.MinInt: api.ErrRange} {
		if s, e := m.Text(at, 0); s != "" || e != want {
			t.Fatal(at, s, e)
		}
		if e := m.Put(at, ""); e != want || all(t, m) != some(10) {
			t.Fatal(at, e)
		}
	}
	if s, e := mem.New(0).Text(0, 0); s != "" || e != api.OK || mem.New(0).Put(0, "") != api.OK {
		t.Fatal("a memory of no bytes", e)
	}
}

func TestPut(t *testing.T) { // P3.2, P3.4
	for _, size := range sizes {
		for _, n := range []int{0, 1, 2, 3, size - 1, size, size + 1, 2*size + 9} {
			s := strings.Repeat("\x00\xffab", max(n, 0))[:max(n, 0)]
			for _, at := range ends(size) {
				m := filled(t, size)
				want, err := some(size), api.ErrRange
				if fits(size, at, len(s)) {
					want, err = with(want, at, s), api.OK
				}
				if e := m.Put(at, s); e != err || all(t, m) != want {
					t.Fatal(size, at, n, e)
				}
			}
		}
	}
}

func TestFork(t *testing.T) { // P3.3, P3.5, and P4
	for _, size := range sizes {
		m := filled(t, size)
		f := m.Fork()
		if f == m || f.Size() != size || all(t, f) != some(size) || len(mem.Diff(m, f)) != 0 || len(mem.Diff(f, m)) != 0 {
			t.Fatal(size, "a fork is as what it was made of")
		}
		if size < 3 {
			continue
		}
		write := []func(m *mem.Memory) api.Errno{
			func(m *mem.Memory) api.Errno { return m.Set(0, 200) },
			func(m *mem.Memory) api.Errno { return m.Set2(size-2, 999) },
			func(m *mem.Memory) api.Errno { return m.Put(1, "xy") },
		}
		for _, w := range write {
			m, f := filled(t, size), filled(t, size).Fork()
			g := m.Fork()
			if w(f) != api.OK || all(t, m) != some(size) || all(t, g) != some(size) {
				t.Fatal(size, "a fork was written")
			}
			if w(m) != api.OK || all(t, g) != some(size) || all(t, m) != all(t, f) {
				t.Fatal(size, "the first one was written")
			}
			h := g.Fork()
			if w(g) != api.OK || all(t, h) != some(size) {
				t.Fatal(size, "a fork of a fork")
			}
		}
	}
}

// unlike goes through the places, one by one.
func unlike(a, b string) []api.Span {
	var out []api.Span
	for at := range max(len(a), len(b)) {
		if at < len(a) && at < len(b) && a[at] == b[at] {
			continue
		}
		if len(out) > 0 && out[len(out)-1].To == at {
			out[len(out)-1].To++
		} else {
			out = append(out, sp(at, at+1))
		}
	}
	return out
}

func TestDiff(t *testing.T) { // P3.3
	var texts []string // all of up to four bytes, of two kinds
	for size := range 5 {
		for n := range 1 << size {
			s := ""
			for i := range size {
				s += string([]byte{byte(n >> i & 1)})
			}
			texts = append(texts, s)
		}
	}
	of := func(s string) *mem.Memory {
		m := mem.New(len(s))
		m.Put(0, s)
		return m
	}
	for _, a := range texts {
		for _, b := range texts {
			if got := mem.Diff(of(a), of(b)); !slices.Equal(got, unlike(a, b)) {
				t.Fatalf("%q %q %v", a, b, got)
			}
		}
	}
	cases := []struct {
		a, b string
		want []api.Span
	}{
		{"", "", nil},
		{"abcde", "abcde", nil},
		{"abcde", "xbcdy", []api.Span{sp(0, 1), sp(4, 5)}},
		{"abcde", "axyde", []api.Span{sp(1, 3)}},
		{"abc", "abc\x00\x00", []api.Span{sp(3, 5)}}, // what is not there is not 0
		{"abxde", "abx", []api.Span{sp(3, 5)}},
		{"abcde", "abx", []api.Span{sp(2, 5)}}, // they would touch
		{"", "abc", []api.Span{sp(0, 3)}},
	}
	for _, c := range cases {
		a, b := of(c.a), of(c.b)
		if got := mem.Diff(a, b); !slices.Equal(got, c.want) {
			t.Fatal(c, got)
		}
		if got := mem.Diff(b, a); !slices.Equal(got, c.want) {
			t.Fatal(c, got)
		}
		if all(t, a) != c.a || all(t, b) != c.b {
			t.Fatal(c, "telling changes nothing")
		}
	}
}

func TestDiffOfWhole(t *testing.T) { // P3.3: as many spans as can be, and one as long as can be
	a, b := mem.New(api.Physical), mem.New(api.Physical)
	for at := 0; at < api.Physical; at += 2 {
		b.Set(at, 1)
	}
	if l := mem.Diff(a, b); len(l) != api.Physical/2 || l[0] != sp(0, 1) || l[len(l)-1] != sp(api.Physical-2, api.Physical-1) {
		t.Fatal(len(l))
	}
	for at := 1; at < api.Physical; at += 2 {
		b.Set(at, 255)
	}
	if l := mem.Diff(a, b); !slices.Equal(l, []api.Span{sp(0, api.Physical)}) {
		t.Fatal(l)
	}
}

func TestNil(t *testing.T) { // P3.3, and P1
	var m *mem.Memory
	if m.Size() != 0 || m.Fork() != nil {
		t.Fatal("size, fork")
	}
	for _, at := range ends(0) {
		if n, e := m.Get(at); n != 0 || e != api.ErrNil {
			t.Fatal(at, n, e)
		}
		if n, e := m.Get2(at); n != 0 || e != api.ErrNil {
			t.Fatal(at, n, e)
		}
		if m.Put(at, "") != api.ErrNil || m.Put(at, "abc") != api.ErrNil {
			t.Fatal(at)
		}
		for _, n := range append(ends(0), numbers()...) {
			if s, e := m.Text(at, n); s != "" || e != api.ErrNil {
				t.Fatal(at, n, s, e)
			}
			if m.Set(at, n) != api.ErrNil || m.Set2(at, n) != api.ErrNil {
				t.Fatal(at, n)
			}
		}
	}
	if len(mem.Diff(nil, nil)) != 0 || len(mem.Diff(nil, mem.New(0))) != 0 || len(mem.Diff(mem.New(0), nil)) != 0 {
		t.Fatal("nothing is unlike")
	}
	for _, l := range [][]api.Span{mem.Diff(nil, mem.New(7)), mem.Diff(mem.New(7), nil)} {
		if !slices.Equal(l, []api.Span{sp(0, 7)}) {
			t.Fatal("a nil memory has no place", l)
		}
	}
}

func TestWrittenIsRead(t *testing.T) { // P3.4: many writes, right and wrong ones, held against a list of bytes
	const size = 40
	m := mem.New(size)
	want := make([]byte, size)
	x := 1
	next := func(n int) int {
		x = (x*1103515245 + 12345) % (1 << 31)
		return x / 256 % n
	}
	for range 20000 {
		at, n := next(size+6)-3, next(200000)-100000
		var e api.Errno
		var put []byte
		switch next(3) {
		case 0:
			put = []byte{byte(leaves(n, 256))}
			e = m.Set(at, n)
		case 1:
			put = []byte{byte(leaves(n, 256)), byte(leaves(n, 65536) / 256)}
			e = m.Set2(at, n)
		default:
			put = []byte(some(next(9)))
			e = m.Put(at, string(put))
		}
		if fits(size, at, len(put)) != (e == api.OK) {
			t.Fatal(at, len(put), e)
		}
		if e == api.OK {
			copy(want[at:], put)
		}
		if all(t, m) != string(want) {
			t.Fatal(at, n, put)
		}
	}
}

func TestAnswersStay(t *testing.T) { // P3
	m := filled(t, 10)
	before := some(10)
	s, _ := m.Text(2, 5)
	l := mem.Diff(m, mem.New(10))
	f := m.Fork()
	m.Put(0, "0123456789")
	if s != before[2:7] || !slices.Equal(l, []api.Span{sp(0, 10)}) || all(t, f) != before {
		t.Fatal("an answer has changed", s, l)
	}
	l = l[:cap(l)]
	for i := range l {
		l[i] = sp(-7, -7)
	}
	if all(t, m) != "0123456789" || !slices.Equal(mem.Diff(m, mem.New(10)), []api.Span{sp(0, 10)}) {
		t.Fatal("an answer is kept")
	}
	other := mem.New(10) // P6: each memory is by itself
	if all(t, other) != strings.Repeat("\x00", 10) {
		t.Fatal("a new memory is empty")
	}
}
