package cpu_test

import (
	"math"
	"slices"
	"strings"
	"testing"

	"campanile/api"
	"campanile/asm"
	"campanile/code"
	"campanile/cpu"
	"campanile/mem"
)

// The calls and the types are just these.
var (
	_ func(cpu.View, cpu.State) (cpu.State, cpu.Out)        = cpu.Step
	_ func(cpu.View, cpu.State, int) (cpu.State, []cpu.Out) = cpu.Run
	_ func(cpu.State, int, int) cpu.State                   = cpu.Give
	_ func(cpu.State) cpu.State                             = cpu.Wake
	_ func(cpu.View) string                                 = cpu.Text
	_                                                       = struct {
		M          *mem.Memory
		Base, Size int
	}(cpu.View{})
	_ = struct {
		Pc   int
		R    [api.Registers]int
		Mode int
	}(cpu.State{})
	_ = struct {
		What, N, X int
		Err        api.Errno
	}(cpu.Out{})
	_ [0]byte = [cpu.Runs]byte{}
	_ [1]byte = [cpu.Rests]byte{}
	_ [2]byte = [cpu.Stopped]byte{}
	_ [3]byte = [cpu.Broken]byte{}
	_ [0]byte = [cpu.None]byte{}
	_ [1]byte = [cpu.Ran]byte{}
	_ [2]byte = [cpu.Called]byte{}
	_ [3]byte = [cpu.Rested]byte{}
	_ [4]byte = [cpu.Stops]byte{}
	_ [5]byte = [cpu.Breaks]byte{}
)

// extremes are numbers of which some go round if anything is added to them.
var extremes = []int{math.MinInt, math.MinInt + 1, math.MinInt + 5, math.MinInt32, -65536, -4, -1, math.MaxInt32, 1 << 32, math.MaxInt - 4, math.MaxInt - 1, math.MaxInt}

// leaves is what n leaves of a number, from 0 on.
func leaves(number, n int) int { return (number%n + n) % n }

// some is bytes that are not alike.
func some(n int) string {
	out := make([]byte, n)
	for i := range out {
		out[i] = byte(i*37 + 11)
	}
	return string(out)
}

// memory is one with these bytes.
func memory(t *testing.T, s string) *mem.Memory {
	t.Helper()
	m := mem.New(len(s))
	if e := m.Put(0, s); e != api.OK {
		t.Fatal(e)
	}
	return m
}

// all is a memory's bytes.
func all(t *testing.T, m *mem.Memory) string {
	t.Helper()
	s, e := m.Text(0, m.Size())
	if e != api.OK {
		t.Fatal(e)
	}
	return s
}

// bytes is an instruction's bytes.
func bytes(t *testing.T, c api.Code, x, n int) string {
	t.Helper()
	s, e := code.Put(api.Instr{Code: c, X: x, N: n})
	if e != api.OK {
		t.Fatal(c, x, n, e)
	}
	return s
}

// program is the bytes of a program's text, up to a size.
func program(t *testing.T, size int, lines ...string) string {
	t.Helper()
	s, n, e := asm.Assemble(strings.Join(lines, "\n"))
	if e != api.OK || len(s) > size {
		t.Fatal(n, e, len(s))
	}
	return s + strings.Repeat("\x00", size-len(s))
}

// plain is a view of bytes, gone through as the document's words tell it.
type plain struct {
	bytes      []byte
	base, size int
}

// there tells whether n bytes from an address on are there.
func (p plain) there(addr, n int) bool {
	if p.base < 0 || p.base > len(p.bytes) || addr < 0 || addr > len(p.bytes) {
		return false
	}
	for a := addr; a < addr+n; a++ {
		if a >= p.size || p.base+a >= len(p.bytes) {
			return false
		}
	}
	return true
}

func (p plain) byte(addr int) int { return int(p.bytes[p.base+addr]) }

// may tells whether four numbers are an instruction's bytes.
func may(c, x, n int) bool {
	switch api.Code(c) {
	case api.Stop, api.Rest:
		return x == 0 && n == 0
	case api.Jump:
		return x == 0
	case api.Set, api.Zero, api.Less, api.Call:
		return x < 8
	case api.Move, api.Add, api.Sub, api.And, api.Xor, api.Read, api.Write, api.Read2, api.Write2:
		return x < 8 && n < 8
	}
	return false
}

// step is a step, told by hand.
func (p plain) step(s cpu.State) (cpu.State, cpu.Out) {
	if s.Mode != cpu.Runs {
		return s, cpu.Out{}
	}
	for x := range s.R {
		s.R[x] = leaves(s.R[x], 65536)
	}
	breaks := func(e api.Errno) (cpu.State, cpu.Out) {
		s.Mode = cpu.Broken
		return s, cpu.Out{What: cpu.Breaks, Err: e}
	}
	if !p.there(s.Pc, 4) {
		return breaks(api.ErrRange)
	}
	c, x, n := p.byte(s.Pc), p.byte(s.Pc+1), p.byte(s.Pc+2)+256*p.byte(s.Pc+3)
	if !may(c, x, n) {
		return breaks(api.ErrCode)
	}
	y := s.R[n%8] // used where N is a register
	out := cpu.Out{What: cpu.Ran}
	pc := s.Pc + 4
	switch api.Code(c) {
	case api.Stop:
		s.Mode = cpu.Stopped
		return s, cpu.Out{What: cpu.Stops}
	case api.Set:
		s.R[x] = n
	case api.Move:
		s.R[x] = y
	case api.Add:
		s.R[x] = (s.R[x] + y) % 65536
	case api.Sub:
		s.R[x] = (s.R[x] - y + 65536) % 65536
	case api.And:
		s.R[x] &= y
	case api.Xor:
		s.R[x] ^= y
	case api.Read:
		if !p.there(y, 1) {
			return breaks(api.ErrRange)
		}
		s.R[x] = p.byte(y)
	case api.Read2:
		if !p.there(y, 2) {
			return breaks(api.ErrRange)
		}
		s.R[x] = p.byte(y) + 256*p.byte(y+1)
	case api.Write:
		if !p.there(y, 1) {
			return breaks(api.ErrRange)
		}
		p.bytes[p.base+y] = byte(s.R[x] % 256)
	case api.Write2:
		if !p.there(y, 2) {
			return breaks(api.ErrRange)
		}
		p.bytes[p.base+y], p.bytes[p.base+y+1] = byte(s.R[x]%256), byte(s.R[x]/256)
	case api.Jump:
		pc = n
	case api.Zero:
		if s.R[x] == 0 {
			pc = n
		}
	case api.Less:
		if s.R[x] < s.R[0] {
			pc = n
		}
	case api.Call:
		out = cpu.Out{What: cpu.Called, N: n, X: x}
	case api.Rest:
		s.Mode = cpu.Rests
		out = cpu.Out{What: cpu.Rested}
	}
	s.Pc = pc
	return s, out
}

// dice are numbers that come the same each time.
type dice uint32

// below is a number from 0 on, below n.
func (d *dice) below(n int) int {
	*d = *d*1664525 + 1013904223
	return int(uint32(*d)>>8) % n
}

// instruction is an instruction's bytes: most of them may be, and most numbers
// are addresses of a small view.
func (d *dice) instruction() string {
	c, x, n := d.below(16), d.below(8), d.below(80)
	switch api.Code(c) {
	case api.Stop, api.Rest:
		x, n = 0, 0
		if d.below(4) > 0 {
			return d.instruction()
		}
	case api.Jump:
		x, n = 0, d.below(20)*4
	case api.Zero, api.Less:
		n = d.below(20) * 4
	case api.Set:
		if d.below(3) == 0 {
			n = d.below(65536)
		}
	case api.Call:
	default:
		n = d.below(8)
	}
	if d.below(60) == 0 {
		c, x = d.below(256), d.below(256)
	}
	return string([]byte{byte(c), byte(x), byte(n), byte(n >> 8)})
}

// text is instructions, at least size bytes of them.
func (d *dice) text(size int) string {
	var out strings.Builder
	for out.Len() < size {
		out.WriteString(d.instruction())
	}
	return out.String()[:size]
}

// state is one of any kind, most of them such that Run.
func (d *dice) state() cpu.State {
	s := cpu.State{Pc: d.below(20) * 4}
	for x := range s.R {
		switch d.below(6) {
		case 0:
			s.R[x] = extremes[d.below(len(extremes))]
		case 1:
			s.R[x] = d.below(1<<20) - 1<<19
		default:
			s.R[x] = d.below(80)
		}
	}
	switch d.below(20) {
	case 0:
		s.Mode = d.below(6) - 1
	case 1:
		s.Pc = extremes[d.below(len(extremes))]
	case 2:
		s.Pc = d.below(90) - 5
	}
	return s
}

// state is a state that Runs from an address on, with these registers.
func state(pc int, r ...int) cpu.State {
	s := cpu.State{Pc: pc}
	copy(s.R[:], r)
	return s
}

// P21.1: what each instruction does.
func TestStepOfEach(t *testing.T) {
	ran := cpu.Out{What: cpu.Ran}
	cases := []struct {
		code  api.Code
		x, n  int
		r     []int // the registers ahead
		then  []int // and behind
		pc    int
		out   cpu.Out
		bytes string // the first four bytes of the view, behind
	}{
		{api.Set, 3, 513, []int{1, 2, 3, 4}, []int{1, 2, 3, 513}, 8, ran, "abcd"},
		{api.Set, 7, 65535, nil, []int{0, 0, 0, 0, 0, 0, 0, 65535}, 8, ran, "abcd"},
		{api.Set, 0, 0, []int{9}, nil, 8, ran, "abcd"},
		{api.Move, 1, 2, []int{5, 6, 7}, []int{5, 7, 7}, 8, ran, "abcd"},
		{api.Move, 2, 2, []int{5, 6, 7}, []int{5, 6, 7}, 8, ran, "abcd"},
		{api.Add, 1, 2, []int{5, 6, 7}, []int{5, 13, 7}, 8, ran, "abcd"},
		{api.Add, 1, 1, []int{5, 32768}, []int{5, 0}, 8, ran, "abcd"},
		{api.Add, 0, 1, []int{65535, 65535}, []int{65534, 65535}, 8, ran, "abcd"},
		{api.Sub, 1, 2, []int{5, 6, 7}, []int{5, 65535, 7}, 8, ran, "abcd"},
		{api.Sub, 2, 1, []int{5, 6, 7}, []int{5, 6, 1}, 8, ran, "abcd"},
		{api.Sub, 1, 1, []int{5, 6}, []int{5, 0}, 8, ran, "abcd"},
		{api.Sub, 0, 1, []int{0, 65535}, []int{1, 65535}, 8, ran, "abcd"},
		{api.And, 0, 1, []int{12, 10}, []int{8, 10}, 8, ran, "abcd"},
		{api.And, 0, 1, []int{65535, 43690}, []int{43690, 43690}, 8, ran, "abcd"},
		{api.Xor, 0, 1, []int{12, 10}, []int{6, 10}, 8, ran, "abcd"},
		{api.Xor, 0, 0, []int{12, 10}, []int{0, 10}, 8, ran, "abcd"},
		{api.Read, 0, 1, []int{999, 2}, []int{'c', 2}, 8, ran, "abcd"},
		{api.Read, 1, 1, []int{0, 19}, []int{0, 't'}, 8, ran, "abcd"},
		{api.Read2, 0, 1, []int{999, 2}, []int{'c' + 256*'d', 2}, 8, ran, "abcd"},
		{api.Read2, 1, 1, []int{0, 18}, []int{0, 's' + 256*'t'}, 8, ran, "abcd"},
		{api.Write, 0, 1, []int{511, 2}, []int{511, 2}, 8, ran, "ab\xffd"},
		{api.Write, 0, 0, []int{1}, []int{1}, 8, ran, "a\x01cd"},
		{api.Write2, 0, 1, []int{513, 2}, []int{513, 2}, 8, ran, "ab\x01\x02"},
		{api.Write2, 1, 0, []int{0, 65535}, []int{0, 65535}, 8, ran, "\xff\xffcd"},
		{api.Jump, 0, 0, nil, nil, 0, ran, "abcd"},
		{api.Jump, 0, 65535, nil, nil, 65535, ran, "abcd"},
		{api.Jump, 0, 4, []int{1}, []int{1}, 4, ran, "abcd"},
		{api.Zero, 1, 13, []int{1}, []int{1}, 13, ran, "abcd"},
		{api.Zero, 0, 13, []int{1}, []int{1}, 8, ran, "abcd"},
		{api.Less, 1, 13, []int{5, 4}, []int{5, 4}, 13, ran, "abcd"},
		{api.Less, 1, 13, []int{5, 5}, []int{5, 5}, 8, ran, "abcd"},
		{api.Less, 1, 13, []int{5, 6}, []int{5, 6}, 8, ran, "abcd"},
		{api.Less, 0, 13, []int{5}, []int{5}, 8, ran, "abcd"},
		{api.Less, 1, 13, []int{65535, 0}, []int{65535, 0}, 13, ran, "abcd"},
		{api.Call, 3, 4, []int{7}, []int{7}, 8, cpu.Out{What: cpu.Called, N: 4, X: 3}, "abcd"},
		{api.Call, 0, 65535, nil, nil, 8, cpu.Out{What: cpu.Called, N: 65535}, "abcd"},
	}
	for _, c := range cases {
		m := memory(t, "abcd"+bytes(t, c.code, c.x, c.n)+"ijklmnopqrst")
		s, out := cpu.Step(cpu.View{M: m, Size: 20}, state(4, c.r...))
		if s != state(c.pc, c.then...) || out != c.out {
			t.Error(c, s, out)
		}
		if all(t, m) != c.bytes+bytes(t, c.code, c.x, c.n)+"ijklmnopqrst" {
			t.Errorf("%v: %q", c, all(t, m))
		}
	}
}

// P21.1: Rest and Stop: the one goes on behind it, once it is waked, the other one stays.
func TestRestAndStop(t *testing.T) {
	m := memory(t, "abcd"+bytes(t, api.Rest, 0, 0)+bytes(t, api.Stop, 0, 0))
	v := cpu.View{M: m, Size: 12}
	s, out := cpu.Step(v, state(4, 1, 2, 3))
	want := state(8, 1, 2, 3)
	want.Mode = cpu.Rests
	if s != want || out != (cpu.Out{What: cpu.Rested}) {
		t.Fatal(s, out)
	}
	s, out = cpu.Step(v, cpu.Wake(s))
	want.Mode = cpu.Stopped
	if s != want || out != (cpu.Out{What: cpu.Stops}) {
		t.Fatal(s, out)
	}
	if got, out := cpu.Step(v, cpu.Wake(s)); got != s || out != (cpu.Out{}) {
		t.Fatal("stopped for good", got, out)
	}
}

// P21.1: of a state that does not Run nothing is done, and it stays as it is, its registers, too.
func TestStepOfWhatDoesNotRun(t *testing.T) {
	text := bytes(t, api.Write, 1, 0) + "...."
	for _, mode := range append([]int{cpu.Rests, cpu.Stopped, cpu.Broken, 4, 5, 256}, extremes...) {
		for _, pc := range []int{0, -1, 5, math.MaxInt} {
			for _, size := range []int{8, 0} {
				m := memory(t, text)
				s := cpu.State{Pc: pc, R: [api.Registers]int{4, 65, -1, 65536, 1 << 40, math.MinInt, math.MaxInt, 7}, Mode: mode}
				v := cpu.View{M: m, Size: size}
				if got, out := cpu.Step(v, s); got != s || out != (cpu.Out{}) {
					t.Fatal(mode, pc, got, out)
				}
				if got, l := cpu.Run(v, s, 5); got != s || len(l) != 0 {
					t.Fatal(mode, pc, got, l)
				}
				if all(t, m) != text {
					t.Fatal(mode, pc, "written")
				}
			}
		}
	}
}

// P21.1: a register of s counts as what 65536 leaves of it, in the state behind too, whatever the step did.
func TestRegistersOfAnySize(t *testing.T) {
	r := [api.Registers]int{-1, 65536, 65537, -65536, math.MinInt, math.MaxInt, 1<<40 + 3, 7}
	counted := [api.Registers]int{65535, 0, 1, 0, 0, 65535, 3, 7}
	texts := map[string]string{
		"jump":   bytes(t, api.Jump, 0, 0),
		"call":   bytes(t, api.Call, 0, 1),
		"rest":   bytes(t, api.Rest, 0, 0),
		"stop":   bytes(t, api.Stop, 0, 0),
		"none":   "\x10\x00\x00\x00",
		"breaks": bytes(t, api.Read, 7, 0), // there is no address 65535
		"end":    "\x00\x00\x00",
	}
	for name, text := range texts {
		m := memory(t, text)
		s, _ := cpu.Step(cpu.View{M: m, Size: len(text)}, cpu.State{R: r})
		if s.R != counted {
			t.Error(name, s.R)
		}
	}
	for x, n := range counted { // and in what is done with them
		m := memory(t, bytes(t, api.Move, 7, x)+bytes(t, api.Zero, x, 0)+bytes(t, api.Less, x, 0))
		v := cpu.View{M: m, Size: 12}
		if s, _ := cpu.Step(v, cpu.State{R: r}); s.R[7] != n {
			t.Error(x, s.R)
		}
		if s, _ := cpu.Step(v, cpu.State{R: r, Pc: 4}); (s.Pc == 0) != (n == 0) {
			t.Error(x, s.Pc)
		}
		if s, _ := cpu.Step(v, cpu.State{R: r, Pc: 8}); (s.Pc == 0) != (n < 65535) {
			t.Error(x, s.Pc)
		}
	}
	m := memory(t, bytes(t, api.Write2, 0, 1)+"....")
	cpu.Step(cpu.View{M: m, Size: 8}, cpu.State{R: [api.Registers]int{-1, 65536 + 4}})
	if all(t, m)[4:] != "\xff\xff.." {
		t.Errorf("%q", all(t, m))
	}
}

// P21.1: the four bytes from Pc on, if they are all there, whatever the Pc is.
func TestPc(t *testing.T) {
	text := some(3) + program(t, 32, "set r1 1", "set r2 2", "set r3 3", "set r4 4", "set r5 5", "set r6 6", "set r7 7", "set r0 9") + some(4)
	v := cpu.View{M: memory(t, text), Base: 3, Size: 32}
	for pc := -9; pc < 50; pc++ {
		s, out := cpu.Step(v, state(pc))
		switch {
		case pc < 0 || pc > 28:
			want := cpu.State{Pc: pc, Mode: cpu.Broken}
			if s != want || out != (cpu.Out{What: cpu.Breaks, Err: api.ErrRange}) {
				t.Error(pc, s, out)
			}
		case pc%4 == 0:
			if s.Pc != pc+4 || out != (cpu.Out{What: cpu.Ran}) {
				t.Error(pc, s, out)
			}
		}
	}
	for _, pc := range extremes {
		if s, out := cpu.Step(v, state(pc)); s.Pc != pc || s.Mode != cpu.Broken || out.Err != api.ErrRange {
			t.Error(pc, s, out)
		}
	}
	// An instruction may begin at any address.
	m := memory(t, "."+bytes(t, api.Set, 1, 5))
	if s, out := cpu.Step(cpu.View{M: m, Size: 5}, state(1)); s != state(5, 0, 5) || out.What != cpu.Ran {
		t.Error(s, out)
	}
}

// P21.1: bytes that are no instruction's.
func TestWhatIsNoInstruction(t *testing.T) {
	numbers := []int{0, 1, 7, 8, 255, 256, 65535}
	for c := range 256 {
		for _, x := range []int{0, 1, 7, 8, 128, 255} {
			for _, n := range numbers {
				text := string([]byte{byte(c), byte(x), byte(n), byte(n >> 8)}) + "..."
				m := memory(t, text)
				s, out := cpu.Step(cpu.View{M: m, Size: 7}, state(0, 0, 1, 2))
				if may(c, x, n) {
					if out.Err == api.ErrCode {
						t.Fatal(c, x, n, out)
					}
					continue
				}
				want := state(0, 0, 1, 2)
				want.Mode = cpu.Broken
				if s != want || out != (cpu.Out{What: cpu.Breaks, Err: api.ErrCode}) || all(t, m) != text {
					t.Fatal(c, x, n, s, out)
				}
			}
		}
	}
	// Bytes that are not all there are ErrRange, whatever the others are.
	if _, out := cpu.Step(cpu.View{M: memory(t, "\xff\xff\xff\xff"), Size: 3}, state(0)); out.Err != api.ErrRange {
		t.Fatal(out)
	}
}

// reach is a case of an address: where a view is, and in what memory.
type reach struct{ memory, base, size int }

// reaches are views of all kinds, of memories of all kinds.
func reaches() []reach {
	var out []reach
	sizes := append([]int{0, 1, 3, 4, 5, 6, 7, 8, 20, 59, 60, 61, 100}, extremes...)
	for _, n := range []int{-1, 0, 3, 4, 30, 60} {
		for _, base := range append([]int{0, 1, 24, 26, 30, 31, 52, 56, 57, 60, 61}, extremes...) {
			for _, size := range sizes {
				out = append(out, reach{n, base, size})
			}
		}
	}
	return out
}

// of is a view, and the same told by hand; below 0 bytes the memory is nil.
func (r reach) of(t *testing.T, text string) (cpu.View, plain) {
	if r.memory < 0 {
		return cpu.View{Base: r.base, Size: r.size}, plain{nil, r.base, r.size}
	}
	text = text[:r.memory]
	return cpu.View{M: memory(t, text), Base: r.base, Size: r.size}, plain{[]byte(text), r.base, r.size}
}

// P21.1, P1: views of any numbers: what is not there is neither read nor written.
func TestViewsOfAnyNumbers(t *testing.T) {
	codes := []api.Code{api.Read, api.Write, api.Read2, api.Write2}
	for _, r := range reaches() {
		for _, c := range codes {
			i := bytes(t, c, 1, 2)
			text := strings.Repeat(i, 15)
			for _, addr := range []int{0, 1, 2, 3, 4, 5, 6, 7, 18, 19, 20, 29, 30, 56, 57, 58, 59, 60, 61, 65535} {
				for _, pc := range []int{0, 4, 24, 56, -4, math.MaxInt, math.MinInt} {
					v, p := r.of(t, text)
					s, out := cpu.Step(v, state(pc, 0, 0xabcd, addr))
					want, told := p.step(state(pc, 0, 0xabcd, addr))
					if s != want || out != told {
						t.Fatal(r, c, addr, pc, s, out, want, told)
					}
					if v.M != nil && all(t, v.M) != string(p.bytes) {
						t.Fatal(r, c, addr, pc, "other bytes")
					}
				}
			}
		}
	}
}

// P21.1: the last byte of a view can be read and written, but not the one behind; of two bytes nothing is written by halves.
func TestTheLastByte(t *testing.T) {
	cases := []struct {
		code api.Code
		addr int
		err  api.Errno
	}{
		{api.Read, 7, api.OK}, {api.Read, 8, api.ErrRange},
		{api.Write, 7, api.OK}, {api.Write, 8, api.ErrRange},
		{api.Read2, 6, api.OK}, {api.Read2, 7, api.ErrRange}, {api.Read2, 8, api.ErrRange},
		{api.Write2, 6, api.OK}, {api.Write2, 7, api.ErrRange}, {api.Write2, 8, api.ErrRange},
		{api.Read2, 65535, api.ErrRange}, {api.Write2, 65535, api.ErrRange},
	}
	for _, c := range cases {
		for _, behind := range []string{"", "behind"} { // the memory ends there, or goes on
			text := "ahead" + bytes(t, c.code, 1, 2) + "wxyz" + behind
			m := memory(t, text)
			ahead := state(0, 3, 0x0102, c.addr)
			s, out := cpu.Step(cpu.View{M: m, Base: 5, Size: 8}, ahead)
			if out.Err != c.err {
				t.Fatal(c, behind, out)
			}
			if c.err != api.OK {
				ahead.Mode = cpu.Broken
				if s != ahead || out != (cpu.Out{What: cpu.Breaks, Err: c.err}) || all(t, m) != text {
					t.Fatal(c, behind, s, out, all(t, m))
				}
			}
		}
	}
}

// P21.1: a memory may end ahead of a view's end: what is there can be reached, the rest can't.
func TestViewThatIsThereInPart(t *testing.T) {
	m := memory(t, "...."+bytes(t, api.Set, 1, 5)+bytes(t, api.Read, 2, 1)+"xy")
	v := cpu.View{M: m, Base: 4, Size: 1000}
	s, l := cpu.Run(v, state(0), 9)
	if s.R[1] != 5 || s.R[2] != 2 || s.Pc != 8 || !slices.Equal(l, []cpu.Out{{What: cpu.Ran}, {What: cpu.Ran}, {What: cpu.Breaks, Err: api.ErrRange}}) {
		t.Fatal(s, l)
	}
	if got := cpu.Text(v); got != "" {
		t.Fatalf("%q", got)
	}
	// A Base that is behind the end, or below 0, has nothing of a view, not even what would lie in the memory.
	for _, base := range []int{-4, -1, 15} {
		v := cpu.View{M: m, Base: base, Size: 18}
		for _, pc := range []int{0, 1, 4, 8} {
			if s, out := cpu.Step(v, state(pc)); s.Mode != cpu.Broken || out != (cpu.Out{What: cpu.Breaks, Err: api.ErrRange}) {
				t.Fatal(base, pc, s, out)
			}
		}
	}
}

// P21.1: any bytes do what the document's words tell of them.
func TestAgainstPlain(t *testing.T) {
	d := dice(1)
	seen := map[cpu.Out]bool{}
	for n := range 6000 {
		text := d.text(96)
		r := reach{memory: 96, base: d.below(20), size: 60 + d.below(40)}
		v, p := r.of(t, text)
		s := d.state()
		first := s
		for k := range 40 {
			want, told := p.step(s)
			got, out := cpu.Step(v, s)
			if got != want || out != told {
				t.Fatal(n, k, first, s, got, out, want, told)
			}
			if all(t, v.M) != string(p.bytes) {
				t.Fatal(n, k, first, s, "other bytes")
			}
			seen[cpu.Out{What: out.What, Err: out.Err}] = true
			s = cpu.Wake(got)
		}
	}
	if len(seen) != 7 { // None, Ran, Called, Rested, Stops, and Breaks of two kinds
		t.Fatal("the dice are too tame", seen)
	}
}

// P21.1: Run is steps, till one asks for something.
func TestRunAgainstSteps(t *testing.T) {
	d := dice(7)
	for n := range 4000 {
		text := d.text(96)
		s := d.state()
		steps := d.below(30) - 3
		v := cpu.View{M: memory(t, text), Base: d.below(20), Size: 60 + d.below(40)}
		w := cpu.View{M: memory(t, text), Base: v.Base, Size: v.Size}
		want := s
		var told []cpu.Out
		for k := 0; k < steps && want.Mode == cpu.Runs; k++ {
			var o cpu.Out
			want, o = cpu.Step(w, want)
			told = append(told, o)
			if o.What == cpu.Called {
				break
			}
		}
		got, l := cpu.Run(v, s, steps)
		if got != want || !slices.Equal(l, told) || all(t, v.M) != all(t, w.M) {
			t.Fatal(n, s, steps, got, l, want, told)
		}
	}
}

// P21.1: where Run ends.
func TestRunEnds(t *testing.T) {
	v := cpu.View{M: memory(t, program(t, 64, "set r1 1", "call r2 3", "add r1 r1", "rest", "add r1 r1", "read r3 r4", "jump 28", "jump 28")), Size: 64}
	ran, called, rested := cpu.Out{What: cpu.Ran}, cpu.Out{What: cpu.Called, N: 3, X: 2}, cpu.Out{What: cpu.Rested}
	for _, n := range []int{0, -1, math.MinInt} {
		s := cpu.State{R: [api.Registers]int{-1, 70000}}
		if got, l := cpu.Run(v, s, n); got != s || len(l) != 0 {
			t.Fatal(n, got, l)
		}
	}
	s, l := cpu.Run(v, state(0), 1)
	if s != state(4, 0, 1) || !slices.Equal(l, []cpu.Out{ran}) {
		t.Fatal("n", s, l)
	}
	s, l = cpu.Run(v, state(0), math.MaxInt)
	if s != state(8, 0, 1) || !slices.Equal(l, []cpu.Out{ran, called}) {
		t.Fatal("Called", s, l)
	}
	s, l = cpu.Run(v, s, math.MaxInt)
	if s.Mode != cpu.Rests || s.Pc != 16 || s.R[1] != 2 || !slices.Equal(l, []cpu.Out{ran, rested}) {
		t.Fatal("Rested", s, l)
	}
	if got, l := cpu.Run(v, s, 3); got != s || len(l) != 0 {
		t.Fatal("it rests", got, l)
	}
	s, l = cpu.Run(v, cpu.Wake(s), 1000)
	if s.Mode != cpu.Runs || s.Pc != 28 || s.R[1] != 4 || s.R[3] != int(api.Set) || !slices.Equal(l, slices.Repeat([]cpu.Out{ran}, 1000)) {
		t.Fatal("it goes on for ever", s, len(l))
	}
	s, l = cpu.Run(v, state(36), 3)
	if s.Mode != cpu.Stopped || s.Pc != 36 || !slices.Equal(l, []cpu.Out{{What: cpu.Stops}}) {
		t.Fatal("Stops", s, l)
	}
	s, l = cpu.Run(v, state(61), 3)
	if s.Mode != cpu.Broken || s.Pc != 61 || !slices.Equal(l, []cpu.Out{{What: cpu.Breaks, Err: api.ErrRange}}) {
		t.Fatal("Breaks", s, l)
	}
}

// P3: what is answered lies in nothing that was answered ahead.
func TestRunAnswersNewLists(t *testing.T) {
	v := cpu.View{M: memory(t, program(t, 8, "set r1 1", "jump 0")), Size: 8}
	_, a := cpu.Run(v, state(0), 5)
	_, b := cpu.Run(v, state(0), 5)
	a[0], a = cpu.Out{What: 99}, append(a, cpu.Out{What: 98})
	if _, c := cpu.Run(v, state(0), 5); !slices.Equal(b, c) || len(c) != 5 {
		t.Fatal(b, c)
	}
}

// P21.1: what is written can be what is done next.
func TestProgramThatWritesItself(t *testing.T) {
	v := cpu.View{M: memory(t, program(t, 20, "set r1 88", "set r2 14", "write r1 r2", "set r3 77", "stop")), Size: 20}
	if s, l := cpu.Run(v, state(0), 10); s.R[3] != 88 || len(l) != 5 {
		t.Fatal(s, l)
	}
}

// P21.2: Give.
func TestGive(t *testing.T) {
	numbers := append([]int{0, 1, 255, 65535, 65536, 65537, -65535, -65537, 70000}, extremes...)
	for _, mode := range []int{cpu.Runs, cpu.Rests, cpu.Stopped, cpu.Broken, -1, 9} {
		s := cpu.State{Pc: -7, R: [api.Registers]int{-1, 2, 65536, 4, math.MinInt, 6, 7, 8}, Mode: mode}
		for _, n := range numbers {
			for x := range api.Registers {
				want := s
				want.R[x] = leaves(n, 65536)
				if got := cpu.Give(s, x, n); got != want {
					t.Fatal(s, x, n, got)
				}
			}
			for _, x := range append([]int{-1, 8, 9, 256}, extremes...) {
				if got := cpu.Give(s, x, n); got != s {
					t.Fatal(s, x, n, got)
				}
			}
		}
	}
}

// P21.2: Wake.
func TestWake(t *testing.T) {
	for _, mode := range append([]int{cpu.Runs, cpu.Rests, cpu.Stopped, cpu.Broken, 4, 5}, extremes...) {
		s := cpu.State{Pc: -7, R: [api.Registers]int{-1, 2, 65536, 4, math.MinInt, 6, 7, 8}, Mode: mode}
		want := s
		if mode == cpu.Rests {
			want.Mode = cpu.Runs
		}
		if got := cpu.Wake(s); got != want {
			t.Fatal(mode, got)
		}
	}
}

// P21.2: Text: all of the view's bytes, or none of them.
func TestText(t *testing.T) {
	for _, r := range reaches() {
		v, p := r.of(t, some(60))
		want := ""
		if r.size > 0 && r.size <= 60 && p.there(0, r.size) {
			want = string(p.bytes[r.base : r.base+r.size])
		}
		if got := cpu.Text(v); got != want {
			t.Fatalf("%v: %q, not %q", r, got, want)
		}
	}
	if got := cpu.Text(cpu.View{M: memory(t, "abcdef"), Base: 2, Size: 3}); got != "cde" {
		t.Fatal(got)
	}
	if got := cpu.Text(cpu.View{M: memory(t, "abcdef"), Base: 2, Size: 4}); got != "cdef" {
		t.Fatal(got)
	}
	if got := cpu.Text(cpu.View{M: memory(t, "abcdef"), Base: 2, Size: 5}); got != "" {
		t.Fatal(got)
	}
}

// P21.3: no byte outside the view is changed or read: two views with the same bytes, wherever they stand, do the same.
func TestWhereverItStands(t *testing.T) {
	d := dice(3)
	for n := range 3000 {
		size := 32 + d.below(60)
		text := d.text(size)
		s := d.state()
		ahead, behind := d.below(100), d.below(100)
		first := cpu.View{M: memory(t, text), Size: size}
		outside := some(ahead + size + behind)
		other := cpu.View{M: memory(t, outside[:ahead]+text+outside[ahead+size:]), Base: ahead, Size: size}
		for range 3 {
			a, l := cpu.Run(first, s, 50)
			b, k := cpu.Run(other, s, 50)
			if a != b || !slices.Equal(l, k) || cpu.Text(first) != cpu.Text(other) {
				t.Fatal(n, s, a, l, b, k)
			}
			if got := all(t, other.M); got[:ahead] != outside[:ahead] || got[ahead+size:] != outside[ahead+size:] {
				t.Fatal(n, s, "a byte outside the view has changed")
			}
			s = cpu.Wake(a)
		}
	}
}

// P1: states and views that no call made.
func TestOfAnything(t *testing.T) {
	numbers := append([]int{0, 1, 4, 8}, extremes...)
	memories := []*mem.Memory{nil, {}, mem.New(0), mem.New(8), mem.New(api.Physical)}
	for _, m := range memories {
		for _, base := range numbers {
			for _, size := range numbers {
				v := cpu.View{M: m, Base: base, Size: size}
				for _, pc := range numbers {
					s := cpu.State{Pc: pc, R: [api.Registers]int(extremes)}
					got, out := cpu.Step(v, s)
					p := plain{make([]byte, m.Size()), base, size}
					if want, told := p.step(s); got != want || out != told {
						t.Fatal(base, size, pc, got, out, want, told)
					}
				}
				if m == nil && cpu.Text(v) != "" {
					t.Fatal(base, size)
				}
			}
		}
	}
}

func TestExample(t *testing.T) {
	v := cpu.View{M: memory(t, program(t, 12, "set r1 7", "add r1 r1", "stop")), Size: 12}
	s, l := cpu.Run(v, cpu.State{}, 10)
	want := state(8, 0, 14)
	want.Mode = cpu.Stopped
	if s != want || len(l) != 3 {
		t.Fatal(s, l)
	}
}
