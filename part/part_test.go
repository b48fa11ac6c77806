package part_test

import (
	"math"
	"slices"
	"strings"
	"testing"

	"campanile/api"
	"campanile/asm"
	"campanile/cpu"
	"campanile/mem"
	"campanile/part"
)

// The calls have just these signatures.
var (
	_ func(owner int, v cpu.View, program string) (*part.Part, api.Errno) = part.New
	_ func(n int, f part.Facts) int                                       = part.Result
	_ func(p *part.Part, tick, bits int) []api.Mark                       = (*part.Part).Open
	_ func(*part.Part, part.Facts) ([]api.Mark, bool)                     = (*part.Part).Step
	_ func(*part.Part) int                                                = (*part.Part).Owner
	_ func(*part.Part) cpu.State                                          = (*part.Part).State
	_ func(*part.Part) string                                             = (*part.Part).Text
	_ func(*part.Part, *mem.Memory) *part.Part                            = (*part.Part).Fork
	_                                                                     = struct{ Tick, Frame, Done, Drops, Bits int }(part.Facts{})
)

// extremes are numbers of which some go round if anything is added to them.
var extremes = []int{math.MinInt, math.MinInt + 1, math.MinInt32, -65537, -65536, -1, math.MaxInt32, 1 << 32, math.MaxInt - 1, math.MaxInt}

// leaves is what n leaves of a number, from 0 on.
func leaves(number, n int) int { return (number%n + n) % n }

// dice are numbers that come the same each time.
type dice uint32

// below is a number from 0 on, below n.
func (d *dice) below(n int) int {
	*d = *d*1664525 + 1013904223
	return int(uint32(*d)>>8) % n
}

// text is n drawn bytes.
func (d *dice) text(n int) string {
	out := make([]byte, n)
	for i := range out {
		out[i] = byte(d.below(256))
	}
	return string(out)
}

// some is n bytes that are not alike.
func some(n int) string {
	d := dice(27)
	return d.text(n)
}

// memory is one with these bytes.
func memory(t *testing.T, s string) *mem.Memory {
	t.Helper()
	m := mem.New(len(s))
	if e := m.Put(0, s); e != api.OK {
		t.Fatal(e)
	}
	return m
}

// all is a memory's bytes.
func all(t *testing.T, m *mem.Memory) string {
	t.Helper()
	s, e := m.Text(0, m.Size())
	if e != api.OK {
		t.Fatal(e)
	}
	return s
}

// program is the bytes of a program's text.
func program(t *testing.T, lines ...string) string {
	t.Helper()
	s, n, e := asm.Assemble(strings.Join(lines, "\n"))
	if e != api.OK {
		t.Fatal(n, e)
	}
	return s
}

// client is a partition that has to be there, in 64 bytes from 100 on.
func client(t *testing.T, lines ...string) *part.Part {
	t.Helper()
	p, e := part.New(3, cpu.View{M: memory(t, some(200)), Base: 100, Size: 64}, program(t, lines...))
	if e != api.OK || p == nil {
		t.Fatal(e)
	}
	return p
}

// steps asks for a step, its marks, and whether the bits were asked for.
func steps(t *testing.T, p *part.Part, f part.Facts, bits bool, want ...api.Mark) {
	t.Helper()
	if l, b := p.Step(f); !slices.Equal(l, want) || b != bits {
		t.Fatal(f, l, b, "not", want, bits)
	}
}

// opens asks for a window's beginning, and its marks.
func opens(t *testing.T, p *part.Part, tick, bits int, want ...api.Mark) {
	t.Helper()
	if l := p.Open(tick, bits); !slices.Equal(l, want) {
		t.Fatal(tick, bits, l, "not", want)
	}
}

func halted(tick int, e api.Errno) api.Mark {
	return api.Mark{Tick: tick, Sort: api.Halted, A: int(e)}
}

func called(tick, n, result int) api.Mark {
	return api.Mark{Tick: tick, Sort: api.Called, A: n, B: result}
}

// whole tells, place by place, whether all bytes of a view are in a memory of so many.
func whole(size int, v cpu.View) bool {
	if v.Size < 0 || v.Size > size || v.Base < 0 || v.Base > size {
		return false
	}
	for i := range v.Size {
		if v.Base+i >= size {
			return false
		}
	}
	return true
}

// P27.1, P2: the error that is named first, of all owners, views and programs.
func TestNewErrors(t *testing.T) {
	owners := append([]int{0, 1, 2, 7, 8, 9, 1<<32 + 1}, extremes...)
	places := append([]int{0, 1, 3, 19, 20, 21, 40}, extremes...)
	for _, owner := range owners {
		for _, base := range places {
			for _, size := range places {
				for _, n := range []int{0, 1, 2, 3, 4, 20, 21, 60} {
					m := memory(t, some(20))
					v := cpu.View{M: m, Base: base, Size: size}
					want := api.OK
					switch {
					case owner < 1 || owner > 8:
						want = api.ErrArg
					case !whole(20, v):
						want = api.ErrRange
					case n > size:
						want = api.ErrLimit
					}
					p, e := part.New(owner, v, strings.Repeat("x", n))
					if e != want || (p == nil) != (e != api.OK) {
						t.Fatal(owner, base, size, n, e, "not", want)
					}
					if e != api.OK && all(t, m) != some(20) {
						t.Fatal(owner, base, size, n, "it has written all the same")
					}
				}
			}
		}
	}
}

func TestNew(t *testing.T) { // P27.1
	for _, c := range []struct{ base, size, n int }{{0, 40, 8}, {0, 40, 40}, {10, 20, 0}, {10, 20, 1}, {10, 20, 20}, {39, 1, 1}, {40, 0, 0}, {0, 0, 0}} {
		for owner := 1; owner <= api.MaxClients; owner++ {
			m := memory(t, some(40))
			s := strings.Repeat("p", c.n)
			p, e := part.New(owner, cpu.View{M: m, Base: c.base, Size: c.size}, s)
			if e != api.OK || p.Owner() != owner || p.State() != (cpu.State{}) {
				t.Fatal(c, owner, e)
			}
			now := some(40)[:c.base] + s + some(40)[c.base+c.n:]
			if all(t, m) != now || p.Text() != now[c.base:c.base+c.size] {
				t.Fatal(c, owner, "its bytes")
			}
		}
	}
}

// P27.1: a nil memory has no bytes, so a view of none is all there of it, and no other one.
func TestNewOfNilMemory(t *testing.T) {
	p, e := part.New(1, cpu.View{}, "")
	if e != api.OK || p.Owner() != 1 || p.Text() != "" {
		t.Fatal(e)
	}
	opens(t, p, 4, 0, api.Mark{Tick: 4, Sort: api.Memory})
	steps(t, p, part.Facts{Tick: 5}, false, halted(5, api.ErrRange))
	if _, e := part.New(1, cpu.View{}, "x"); e != api.ErrLimit {
		t.Fatal(e)
	}
	for _, v := range []cpu.View{{Size: 1}, {Base: 1}, {Base: 1, Size: 1}, {Size: -1}, {Base: -1}} {
		if p, e := part.New(1, v, ""); e != api.ErrRange || p != nil {
			t.Fatal(v, e)
		}
	}
}

func TestResult(t *testing.T) { // P27.1
	numbers := append([]int{0, 1, 2, 65534, 65535, 65536, 65537, 131072 + 9, 70000}, extremes...)
	for _, x := range numbers {
		for _, f := range []part.Facts{
			{Tick: x, Frame: 2, Done: 3, Drops: 4, Bits: 5},
			{Tick: 1, Frame: x, Done: 3, Drops: 4, Bits: 5},
			{Tick: 1, Frame: 2, Done: x, Drops: 4, Bits: 5},
			{Tick: 1, Frame: 2, Done: 3, Drops: x, Bits: 5},
			{Tick: 1, Frame: 2, Done: 3, Drops: 4, Bits: x},
			{Tick: x, Frame: x, Done: x, Drops: x, Bits: x},
		} {
			for n, want := range map[int]int{1: f.Tick, 2: f.Done, 3: f.Drops, 4: f.Bits, 5: f.Frame} {
				if got := part.Result(n, f); got != leaves(want, 65536) {
					t.Fatal(n, f, got)
				}
			}
			for _, n := range append([]int{-2, 0, 6, 7, 255, 65535, 65536, 65537, 1<<32 + 1}, extremes...) {
				if got := part.Result(n, f); got != 65535 {
					t.Fatal(n, f, got)
				}
			}
		}
	}
}

func TestOpen(t *testing.T) { // P27.2
	for _, tick := range append([]int{0, 1, 40}, extremes...) {
		for _, bits := range append([]int{0, 1, 2, 4, 7, 8}, extremes...) {
			p := client(t, "rest", "stop")
			want := []api.Mark{{Tick: tick, Sort: api.Memory, Data: p.Text()}}
			if bits != 0 {
				want = append(want, api.Mark{Tick: tick, Sort: api.Waked, A: bits})
			}
			was := p.State()
			opens(t, p, tick, bits, want...)
			if p.State() != was {
				t.Fatal("one that Runs stays as it is")
			}
			steps(t, p, part.Facts{}, false)
			if x := p.State(); x.Mode != cpu.Rests || x.Pc != 4 {
				t.Fatal(x)
			}
			opens(t, p, tick, bits, want...)
			if x := p.State(); x != (cpu.State{Pc: 4, Mode: cpu.Runs}) {
				t.Fatal("one that Rests Runs", x)
			}
		}
	}
}

// P27.2: the mark tells the bytes as they are then, and not those of the whole memory.
func TestOpenTellsBytes(t *testing.T) {
	m := memory(t, some(90))
	p, _ := part.New(1, cpu.View{M: m, Base: 30, Size: 40}, program(t, "set r1 39", "set r2 77", "write r2 r1", "stop"))
	first := p.Text()
	opens(t, p, 0, 0, api.Mark{Sort: api.Memory, Data: first})
	for range 3 {
		steps(t, p, part.Facts{}, false)
	}
	then := first[:39] + "M"
	opens(t, p, 9, 3, api.Mark{Tick: 9, Sort: api.Memory, Data: then}, api.Mark{Tick: 9, Sort: api.Waked, A: 3})
	m.Put(30, "from outside")
	opens(t, p, 9, 0, api.Mark{Tick: 9, Sort: api.Memory, Data: "from outside" + then[12:]})
	if s := all(t, m); s[:30] != some(90)[:30] || s[70:] != some(90)[70:] {
		t.Fatal("outside")
	}
}

// P27.2: who stands still for good is opened, too, and stays so.
func TestForGood(t *testing.T) {
	for _, c := range []struct {
		line string
		e    api.Errno
		mode int
	}{
		{"stop", api.OK, cpu.Stopped},
		{"jump 61", api.ErrRange, cpu.Broken},
		{"jump 65535", api.ErrRange, cpu.Broken},
		{"read r2 r1", api.ErrRange, cpu.Broken},
		{"write2 r2 r1", api.ErrRange, cpu.Broken},
		{"jump 12", api.ErrCode, cpu.Broken},
	} {
		p := client(t, "set r1 64", c.line, "stop", "jump 0")
		p.M.Set(p.Base+12, 77)
		steps(t, p, part.Facts{Tick: 1}, false)
		if strings.HasPrefix(c.line, "jump") {
			steps(t, p, part.Facts{Tick: 2}, false)
		}
		steps(t, p, part.Facts{Tick: 3}, false, halted(3, c.e))
		was, bytes := p.State(), p.Text()
		if was.Mode != c.mode || was.R[1] != 64 {
			t.Fatal(c, was)
		}
		for range 2 {
			opens(t, p, 7, 0, api.Mark{Tick: 7, Sort: api.Memory, Data: bytes})
			steps(t, p, part.Facts{Tick: 8, Bits: 7}, false)
		}
		if p.State() != was || p.Text() != bytes {
			t.Fatal(c, "for good")
		}
	}
}

// P27.2: a hypercall's result is in its register, and in the mark; only api.CallBits is told beside it.
func TestCalls(t *testing.T) {
	for _, n := range []string{"0", "1", "2", "3", "4", "5", "6", "255", "260", "65535"} {
		for register := range api.Registers {
			r := "r" + string([]byte{byte('0' + register)})
			p := client(t, "set r1 11", "set r6 12", "call "+r+" "+n, "rest")
			was := p.Text()
			f := part.Facts{Tick: 70001, Frame: 65536 + 20, Done: 30, Drops: -1, Bits: 6}
			number, result := map[string]int{"0": 0, "1": 1, "2": 2, "3": 3, "4": 4, "5": 5, "6": 6, "255": 255, "260": 260, "65535": 65535}[n], 65535
			if number >= 1 && number <= 5 {
				result = []int{0, 70001 - 65536, 30, 65535, 6, 20}[number]
			}
			steps(t, p, f, false)
			steps(t, p, f, false)
			want := p.State()
			want.Pc, want.R[register] = 12, result
			steps(t, p, f, number == 4, called(70001, number, result))
			if p.State() != want || p.Text() != was {
				t.Fatal(n, r, p.State(), want)
			}
			steps(t, p, f, false)
		}
	}
}

// P27.2: a mark's tick is that of what is told, whatever it is.
func TestTicks(t *testing.T) {
	for _, tick := range extremes {
		p := client(t, "call r1 1", "stop")
		steps(t, p, part.Facts{Tick: tick}, false, called(tick, 1, leaves(tick, 65536)))
		steps(t, p, part.Facts{Tick: tick}, false, halted(tick, api.OK))
	}
}

// P27.2: what neither calls nor halts has no mark; who rests does nothing till its window begins.
func TestNoMarks(t *testing.T) {
	p := client(t, "set r1 40", "move r2 r1", "add r2 r1", "sub r2 r1", "and r3 r1", "xor r3 r1", "write2 r1 r1", "read r4 r1", "read2 r5 r1", "zero r6 40", "less r1 0", "rest")
	for range 9 {
		steps(t, p, part.Facts{Tick: 5, Bits: 1}, false)
	}
	if x := p.State(); x.Pc != 36 || x.R != [8]int{0, 40, 40, 40, 40, 40} {
		t.Fatal(x)
	}
	p.M.Put(p.Base+40, program(t, "jump 44", "rest", "stop"))
	for range 10 {
		steps(t, p, part.Facts{Tick: 6}, false)
	}
	if x := p.State(); x.Mode != cpu.Rests || x.Pc != 48 {
		t.Fatal(x)
	}
	p.Open(10, 0)
	steps(t, p, part.Facts{Tick: 11}, false, halted(11, api.OK))
}

func TestFork(t *testing.T) { // P27.3, P4
	p := client(t, "set r1 7", "call r2 4", "write r1 r1", "rest", "jump 4")
	steps(t, p, part.Facts{}, false)
	m := p.M.Fork()
	f := p.Fork(m)
	if f.Owner() != 3 || f.State() != p.State() || f.Text() != p.Text() {
		t.Fatal("not alike")
	}
	state, text := p.State(), p.Text()
	steps(t, f, part.Facts{Tick: 9, Bits: 3}, true, called(9, 4, 3))
	steps(t, f, part.Facts{}, false)
	if p.State() != state || p.Text() != text || f.Text() == text || all(t, m)[100:164] != f.Text() {
		t.Fatal("the fork is not by itself")
	}
	state, text = f.State(), f.Text()
	steps(t, p, part.Facts{Tick: 8, Bits: 1}, true, called(8, 4, 1))
	for range 2 {
		steps(t, p, part.Facts{}, false)
	}
	if f.State() != state || f.Text() != text || p.State().R[2] != 1 || f.State().R[2] != 3 {
		t.Fatal("nor is what was forked")
	}
	p.Open(0, 0)
	if p.State().Mode != cpu.Runs || f.State() != state {
		t.Fatal("opened")
	}
}

// P27.3: the same view of another memory, also where that is not there.
func TestForkOfOtherMemory(t *testing.T) {
	p := client(t, "stop")
	m := memory(t, strings.Repeat("\x00", 108)+some(92))
	f := p.Fork(m)
	if f.Text() != all(t, m)[100:164] {
		t.Fatal(f.Text())
	}
	for _, m := range []*mem.Memory{nil, mem.New(0), mem.New(100), mem.New(103)} {
		f := p.Fork(m)
		if f.Text() != "" || f.Owner() != 3 || f.State() != p.State() {
			t.Fatal("not there")
		}
		opens(t, f, 2, 0, api.Mark{Tick: 2, Sort: api.Memory})
		steps(t, f, part.Facts{Tick: 3}, false, halted(3, api.ErrRange))
	}
	if p.State() != (cpu.State{}) || len(p.Text()) != 64 {
		t.Fatal("its forks changed it")
	}
}

func TestNil(t *testing.T) { // P27.3
	var p *part.Part
	l, b := p.Step(part.Facts{Tick: 4, Bits: 7})
	if len(l) != 0 || b || len(p.Open(4, 7)) != 0 || p.Owner() != 0 || p.State() != (cpu.State{}) || p.Text() != "" || p.Fork(mem.New(9)) != nil || p.Fork(nil) != nil {
		t.Fatal("nil")
	}
}

func TestOfOneThatNoCallMade(t *testing.T) { // P1: it does not panic
	p := &part.Part{}
	p.Open(math.MinInt, math.MaxInt)
	p.Step(part.Facts{Tick: math.MaxInt})
	p.Owner()
	p.State()
	p.Text()
	p.Fork(nil).Step(part.Facts{})
}

// plain is a partition as the document's words tell it, over layer 21.
type plain struct {
	v cpu.View
	s cpu.State
}

func (p *plain) open(tick, bits int) []api.Mark {
	l := []api.Mark{{Tick: tick, Sort: api.Memory, Data: cpu.Text(p.v)}}
	if bits != 0 {
		l = append(l, api.Mark{Tick: tick, Sort: api.Waked, A: bits})
	}
	if p.s.Mode == cpu.Rests {
		p.s.Mode = cpu.Runs
	}
	return l
}

func (p *plain) step(f part.Facts) ([]api.Mark, bool) {
	s, o := cpu.Step(p.v, p.s)
	p.s = s
	switch o.What {
	case cpu.Called:
		result := 65535
		if o.N >= 1 && o.N <= 5 {
			result = leaves([]int{f.Tick, f.Done, f.Drops, f.Bits, f.Frame}[o.N-1], 65536)
		}
		p.s.R[o.X] = result
		return []api.Mark{called(f.Tick, o.N, result)}, o.N == 4
	case cpu.Stops:
		return []api.Mark{halted(f.Tick, 0)}, false
	case cpu.Breaks:
		return []api.Mark{halted(f.Tick, o.Err)}, false
	}
	return nil, false
}

// drawn is a program of instructions that mostly may be.
func drawn(d *dice, size int) string {
	var out []byte
	for len(out)+4 <= size {
		code := api.Code(1 + d.below(15))
		if d.below(40) == 0 {
			code = api.Code(d.below(18))
		}
		x, n := d.below(8), d.below(8)
		switch code {
		case api.Set:
			n = d.below(size + 3)
		case api.Jump, api.Zero, api.Less:
			n = 4 * d.below(size/4+1)
		case api.Call:
			n = d.below(8)
		}
		out = append(out, byte(code), byte(x), byte(n), byte(n>>8))
	}
	return string(out)
}

// P27.2, P27.4: two partitions with the same bytes, in other places of other memories, do the same if they are told the
// same, which is what the words say; and nothing outside their views is changed.
func TestTheSameWhereverItStands(t *testing.T) {
	d := dice(5)
	marks := map[api.Sort]int{}
	for run := range 400 {
		size := 32 + d.below(60)
		text, before, behind := drawn(&d, size), d.text(d.below(40)), d.text(d.below(40))
		rest := d.text(size - len(text))
		here, there := memory(t, before+d.text(len(text))+rest+behind), memory(t, d.text(len(text))+rest)
		model := &plain{v: cpu.View{M: memory(t, text+rest), Size: size}}
		p, e := part.New(2, cpu.View{M: here, Base: len(before), Size: size}, text)
		q, f := part.New(7, cpu.View{M: there, Size: size}, text)
		if e != api.OK || f != api.OK {
			t.Fatal(e, f)
		}
		for tick := range 120 {
			if d.below(12) == 0 {
				bits := d.below(8)
				want := model.open(tick, bits)
				opens(t, p, tick, bits, want...)
				opens(t, q, tick, bits, want...)
			}
			facts := part.Facts{Tick: tick, Frame: d.below(1 << 20), Done: d.below(1 << 20), Drops: d.below(9), Bits: d.below(8)}
			want, bits := model.step(facts)
			steps(t, p, facts, bits, want...)
			steps(t, q, facts, bits, want...)
			for _, m := range want {
				marks[m.Sort]++
			}
			if p.State() != model.s || q.State() != model.s || p.Text() != cpu.Text(model.v) || q.Text() != cpu.Text(model.v) {
				t.Fatal(run, tick, p.State(), q.State(), model.s)
			}
		}
		if s := all(t, here); !strings.HasPrefix(s, before) || !strings.HasSuffix(s, behind) {
			t.Fatal(run, "outside")
		}
	}
	if marks[api.Called] < 200 || marks[api.Halted] < 100 {
		t.Fatal("too few", marks)
	}
}

func TestExample(t *testing.T) {
	p := client(t, "call r2 1")
	steps(t, p, part.Facts{Tick: 70000}, false, called(70000, 1, 4464))
	if p.State().R[2] != 4464 {
		t.Fatal(p.State())
	}
}
