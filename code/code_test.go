package code_test

import (
	"math"
	"slices"
	"strings"
	"testing"

	"campanile/api"
	"campanile/code"
)

// The calls have just these signatures.
var (
	_ func(api.Instr) bool                       = code.May
	_ func(api.Instr) (string, api.Errno)        = code.Put
	_ func(string) (api.Instr, api.Errno)        = code.Get
	_ func(string) ([]api.Instr, int, api.Errno) = code.All
	_ func(api.Code) string                      = code.Name
	_ func(string) (api.Code, bool)              = code.Named
	_ func(api.Code) bool                        = code.Register
	_ func(api.Instr) bool                       = code.Goes
	_ [code.Size]byte                            = [4]byte{}
)

// words are the codes' names in the order of api, as the document lists them.
var words = strings.Split("stop, set, move, add, sub, and, xor, read, write, read2, write2, jump, zero, less, call, rest", ", ")

// numbers are X and N about all edges, and of any size.
var numbers = []int{
	math.MinInt, math.MinInt + 1, math.MinInt32, -65536, -256, -1, 0, 1, 2, 6, 7, 8, 9, 127, 128, 255, 256, 257, 511, 513,
	32767, 32768, 65534, 65535, 65536, 65537, 1 << 31, 1 << 32, 1<<32 + 7, math.MaxInt - 1, math.MaxInt,
}

// plain is, from the document's words, an instruction's bytes, whether it may
// be, and whether its N is a register.
func plain(c api.Code, x, n int) (string, bool, bool) {
	register := c >= api.Move && c <= api.Write2
	may := c <= api.Rest && x >= 0 && x < api.Registers && n >= 0 && n <= 65535
	if register && n >= api.Registers {
		may = false
	}
	if (c == api.Stop || c == api.Rest) && (x != 0 || n != 0) || c == api.Jump && x != 0 {
		may = false
	}
	if !may {
		return "", false, register
	}
	return string([]byte{byte(c), byte(x), byte(n % 256), byte(n / 256)}), true, register
}

// dice are numbers that come the same each time.
type dice uint32

// below is a number from 0 on, below n.
func (d *dice) below(n int) int {
	*d = *d*1664525 + 1013904223
	return int(uint32(*d)>>8) % n
}

// drawn is an instruction that may be.
func drawn(d *dice) api.Instr {
	for {
		i := api.Instr{Code: api.Code(d.below(16)), X: d.below(8), N: d.below(65536) >> d.below(17)}
		if d.below(3) == 0 {
			i.X, i.N = 0, 0
		}
		if code.May(i) {
			return i
		}
	}
}

// P19.1: May and Put, of all codes, the api's and others, with numbers of any
// size; P19.3: what was put is got.
func TestMayAndPut(t *testing.T) {
	for c := range 256 {
		for _, x := range numbers {
			for _, n := range numbers {
				i := api.Instr{Code: api.Code(c), X: x, N: n}
				want, may, _ := plain(i.Code, x, n)
				if code.May(i) != may {
					t.Fatal("May", i, !may)
				}
				s, e := code.Put(i)
				if s != want || may != (e == api.OK) || !may && e != api.ErrCode {
					t.Fatalf("Put %v: %q %v", i, s, e)
				}
				if !may {
					continue
				}
				if back, e := code.Get(s); back != i || e != api.OK {
					t.Fatal("Get", i, back, e)
				}
			}
		}
	}
}

// P19.1: the codes have their numbers by api, and their shapes one by one.
func TestShapes(t *testing.T) {
	for _, c := range []struct {
		i  api.Instr
		ok bool
		s  string
	}{
		{api.Instr{Code: api.Set, X: 3, N: 513}, true, "\x01\x03\x01\x02"}, // the document's example
		{api.Instr{}, true, "\x00\x00\x00\x00"},
		{api.Instr{Code: api.Stop, X: 1}, false, ""},
		{api.Instr{Code: api.Stop, N: 1}, false, ""},
		{api.Instr{Code: api.Set, X: 7, N: 65535}, true, "\x01\x07\xff\xff"},
		{api.Instr{Code: api.Set, X: 8}, false, ""},
		{api.Instr{Code: api.Set, N: 65536}, false, ""},
		{api.Instr{Code: api.Set, N: -1}, false, ""},
		{api.Instr{Code: api.Move, X: 7, N: 7}, true, "\x02\x07\x07\x00"},
		{api.Instr{Code: api.Move, N: 8}, false, ""},
		{api.Instr{Code: api.Add, N: 8}, false, ""},
		{api.Instr{Code: api.Sub, N: 8}, false, ""},
		{api.Instr{Code: api.And, N: 8}, false, ""},
		{api.Instr{Code: api.Xor, N: 8}, false, ""},
		{api.Instr{Code: api.Read, N: 8}, false, ""},
		{api.Instr{Code: api.Write, N: 8}, false, ""},
		{api.Instr{Code: api.Read2, N: 8}, false, ""},
		{api.Instr{Code: api.Write2, N: 8}, false, ""},
		{api.Instr{Code: api.Write2, X: 1, N: 2}, true, "\x0a\x01\x02\x00"},
		{api.Instr{Code: api.Jump, N: 65535}, true, "\x0b\x00\xff\xff"},
		{api.Instr{Code: api.Jump, X: 1, N: 8}, false, ""},
		{api.Instr{Code: api.Zero, X: 2, N: 256}, true, "\x0c\x02\x00\x01"},
		{api.Instr{Code: api.Less, X: 2, N: 256}, true, "\x0d\x02\x00\x01"},
		{api.Instr{Code: api.Call, X: 7, N: 65535}, true, "\x0e\x07\xff\xff"},
		{api.Instr{Code: api.Call, X: -1}, false, ""},
		{api.Instr{Code: api.Rest}, true, "\x0f\x00\x00\x00"},
		{api.Instr{Code: api.Rest, X: 1}, false, ""},
		{api.Instr{Code: api.Rest, N: 1}, false, ""},
		{api.Instr{Code: 16}, false, ""},
		{api.Instr{Code: 255}, false, ""},
	} {
		s, e := code.Put(c.i)
		if code.May(c.i) != c.ok || s != c.s || c.ok != (e == api.OK) {
			t.Errorf("%v: %q %v", c.i, s, e)
		}
	}
}

// P19.1: Get, of texts too short, of all first bytes, and with more behind;
// P19.3: what is got is put as those bytes.
func TestGet(t *testing.T) {
	for _, s := range []string{"", "\x00", "\x01\x02", "\x01\x02\x03", "\xff", "\xff\xff\xff"} {
		if i, e := code.Get(s); i != (api.Instr{}) || e != api.ErrEnd {
			t.Errorf("%q: %v %v", s, i, e)
		}
	}
	edges := []byte{0, 1, 2, 6, 7, 8, 15, 16, 127, 128, 254, 255}
	for c := range 256 {
		for x := range 256 {
			for _, low := range edges {
				for _, high := range edges {
					four := string([]byte{byte(c), byte(x), low, high})
					n := int(low) + 256*int(high)
					_, may, _ := plain(api.Code(c), x, n)
					want, errno := api.Instr{Code: api.Code(c), X: x, N: n}, api.OK
					if !may {
						want, errno = api.Instr{}, api.ErrCode
					}
					if i, e := code.Get(four + "\xff\x00"); i != want || e != errno {
						t.Fatalf("%q: %v %v", four, i, e)
					}
					if !may {
						continue
					}
					if s, e := code.Put(want); s != four || e != api.OK {
						t.Fatalf("%q: put as %q %v", four, s, e)
					}
				}
			}
		}
	}
}

// P19.1: All, of nothing, of some, and with what is wrong in each place.
func TestAll(t *testing.T) {
	if l, n, e := code.All(""); len(l) != 0 || n != 0 || e != api.OK {
		t.Error(l, n, e)
	}
	d := dice(19)
	for k := range 400 {
		var want []api.Instr
		var text string
		for range k % 21 {
			i := drawn(&d)
			s, _ := code.Put(i)
			want, text = append(want, i), text+s
		}
		l, n, e := code.All(text)
		if !slices.Equal(l, want) || n != len(text) || e != api.OK {
			t.Fatalf("%q: %v %d %v", text, l, n, e)
		}
		again, _, _ := code.All(text)
		for i := range l {
			l[i].N = -1
		}
		if !slices.Equal(again, want) {
			t.Fatal("two answers share memory")
		}
		cut := text + "\x01\x01\x01"[:1+k%3]
		if l, n, e := code.All(cut); len(l) != 0 || n != len(text) || e != api.ErrEnd {
			t.Fatalf("%q: %v %d %v", cut, l, n, e)
		}
		// The first one that is none is told, whatever stands behind it.
		bad := text + []string{"\x10\x00\x00\x00", "\x00\x00\x00\x01", "\x02\x00\x08\x00", "\x0b\x01\x00\x00"}[k%4] + text + cut
		if l, n, e := code.All(bad); len(l) != 0 || n != len(text) || e != api.ErrCode {
			t.Fatalf("%q: %v %d %v", bad, l, n, e)
		}
	}
	// A code that is none counts only where all of its bytes are there.
	if _, n, e := code.All("\x0f\x00\x00\x00\xff"); n != 4 || e != api.ErrEnd {
		t.Error(n, e)
	}
}

// P19.2: Name and Named; P19.3: names are unlike.
func TestNames(t *testing.T) {
	if len(words) != int(api.Rest)+1 {
		t.Fatal(words)
	}
	seen := map[string]bool{}
	for c := range 256 {
		name := code.Name(api.Code(c))
		if c >= len(words) {
			if name != "" {
				t.Error(c, name)
			}
			continue
		}
		if name != words[c] || seen[name] {
			t.Error(c, name)
		}
		seen[name] = true
		if back, ok := code.Named(name); back != api.Code(c) || !ok {
			t.Error(name, back, ok)
		}
	}
	for _, w := range []string{"", " ", "Stop", "STOP", "sto", "stops", " stop", "stop ", "rea", "read3", "read22", "write", "byte", "two", "nop", "\x00", "set\x00", "rést", "stopset"} {
		c, ok := code.Named(w)
		if w == "write" {
			if c != api.Write || !ok {
				t.Error(w, c, ok)
			}
			continue
		}
		if c != 0 || ok {
			t.Errorf("%q: %v %v", w, c, ok)
		}
	}
}

// P19.2: Register, of all codes.
func TestRegister(t *testing.T) {
	with := []api.Code{api.Move, api.Add, api.Sub, api.And, api.Xor, api.Read, api.Write, api.Read2, api.Write2}
	for c := range 256 {
		if code.Register(api.Code(c)) != slices.Contains(with, api.Code(c)) {
			t.Error(c)
		}
	}
}

// P19.2: Goes, of all codes, whatever X and N are.
func TestGoes(t *testing.T) {
	others := []api.Code{api.Stop, api.Jump, api.Zero, api.Less}
	for c := range 256 {
		for _, n := range numbers {
			if code.Goes(api.Instr{Code: api.Code(c), X: n, N: n}) != slices.Contains(others, api.Code(c)) {
				t.Error(c, n)
			}
		}
	}
}
