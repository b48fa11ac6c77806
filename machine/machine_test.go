package machine_test

import (
	"math"
	"slices"
	"strings"
	"testing"

	"campanile/api"
	"campanile/asm"
	"campanile/conf"
	"campanile/cpu"
	"campanile/desc"
	"campanile/frame"
	"campanile/image"
	"campanile/machine"
	"campanile/mem"
	"campanile/plan"
	"campanile/server"
	"campanile/tone"
)

// The calls have just these signatures.
var (
	_ func(img string, programs []string) (*machine.Machine, []api.Fault, api.Errno) = machine.Boot
	_ func(s api.Script) (*machine.Machine, []api.Fault, api.Errno)                  = machine.Run
	_ func(x *machine.Machine, l []api.Event) api.Errno                              = (*machine.Machine).Step
	_ func(x *machine.Machine) int                                                   = (*machine.Machine).Tick
	_ func(x *machine.Machine) int                                                   = (*machine.Machine).Owners
	_ func(x *machine.Machine, owner int) []api.Mark                                 = (*machine.Machine).Trace
	_ func(x *machine.Machine, owner int) string                                     = (*machine.Machine).Text
	_ func(x *machine.Machine, owner int) cpu.State                                  = (*machine.Machine).State
	_ func(x *machine.Machine, owner int) machine.Counts                             = (*machine.Machine).Counts
	_ func(x *machine.Machine) *plan.Plan                                            = (*machine.Machine).Plan
	_ func(x *machine.Machine) *server.Server                                        = (*machine.Machine).Server
	_ func(x *machine.Machine) *mem.Memory                                           = (*machine.Machine).Memory
	_ func(x *machine.Machine) *machine.Machine                                      = (*machine.Machine).Fork
	_                                                                                = struct{ Taken, Done, Backlog, Used, Drops int }(machine.Counts{})
)

// extremes are numbers of which some go round if anything is added to them.
var extremes = []int{math.MinInt, math.MinInt + 1, math.MinInt32, -65537, -40, -1, math.MaxInt32, 1 << 32, math.MaxInt - 1, math.MaxInt}

// tables are those of two clients. Post and Collect are at 0 and 1 of the owner 1, at 2 and 3 of 2. Units end at 7 and
// 19 of the owner 1, at 11 of 2.
func tables() api.Config {
	return api.Config{
		Frame:   20,
		Windows: []api.Window{{Owner: 1, From: 4, To: 12}, {Owner: 0, From: 0, To: 4}, {Owner: 2, From: 12, To: 20}},
		Slots:   []api.Slot{{Owner: 1, From: 4, To: 8}, {Owner: 2, From: 8, To: 12}, {Owner: 1, From: 16, To: 20}},
		Clients: []api.Client{
			{Base: 128, Size: 96, Ring: 4, At: 40, Quota: 2, Queue: 2, Mac: 1, Channel: 10, Sectors: 4},
			{Base: 224, Size: 64, Ring: 2, At: 40, Quota: 1, Queue: 1, Mac: 2, Channel: 20, First: 4, Sectors: 2},
		},
	}
}

// loop asks for the interrupts' bits again and again, once a window.
const loop = "again:\ncall r4 4\nrest\njump again"

// program is a text's, with a ring behind it into which all of some descriptors were put, and bytes behind the ring.
func program(t *testing.T, row api.Client, text string, behind string, l ...api.Desc) string {
	t.Helper()
	s, line, e := asm.Assemble(text)
	if e != api.OK || len(s) > row.At {
		t.Fatal(line, e)
	}
	out := s + strings.Repeat("\x00", row.At-len(s)) + string([]byte{byte(len(l)), 0})
	for _, x := range l {
		d, e := desc.Print(x)
		if e != api.OK {
			t.Fatal(e)
		}
		out += d
	}
	return out + strings.Repeat("\x00", row.At+2+8*row.Ring-len(out)) + behind
}

// say is a descriptor that asks for n bytes to be said, hear likewise.
func say(addr, n int) api.Desc  { return api.Desc{What: api.Say, Addr: addr, Len: n} }
func hear(addr, n int) api.Desc { return api.Desc{What: api.Hear, Addr: addr, Len: n} }

// come is a byte on a channel.
func come(channel, b int) api.Event { return api.Event{Kind: api.Byte, Channel: channel, Byte: b} }

// packet is a frame with some data.
func packet(t *testing.T, mac int, data string) api.Event {
	t.Helper()
	s, e := frame.Print(frame.Frame{To: mac, From: 9, Data: data})
	if e != api.OK {
		t.Fatal(e)
	}
	return api.Event{Kind: api.Packet, Data: s}
}

// events are what comes at some ticks.
type events map[int][]api.Event

// steps does so many ticks.
func steps(t *testing.T, x *machine.Machine, n int, l events) *machine.Machine {
	t.Helper()
	for range n {
		tick := x.Tick()
		if e := x.Step(l[tick]); e != api.OK || x.Tick() != tick+1 {
			t.Fatal(tick, e, x.Tick())
		}
	}
	return x
}

// but are a client's marks without those of one sort.
func but(x *machine.Machine, owner int, sort api.Sort) []api.Mark {
	return slices.DeleteFunc(x.Trace(owner), func(m api.Mark) bool { return m.Sort == sort })
}

// told asks for a client's marks, but those of its memory.
func told(t *testing.T, x *machine.Machine, owner int, want ...api.Mark) {
	t.Helper()
	if got := but(x, owner, api.Memory); !slices.Equal(got, want) {
		t.Fatal(owner, got, "not", want)
	}
}

// at are a client's marks of one tick.
func at(x *machine.Machine, owner, tick int) []api.Mark {
	return slices.DeleteFunc(x.Trace(owner), func(m api.Mark) bool { return m.Tick != tick })
}

func called(tick, n, result int) api.Mark {
	return api.Mark{Tick: tick, Sort: api.Called, A: n, B: result}
}

func waked(tick, bits int) api.Mark      { return api.Mark{Tick: tick, Sort: api.Waked, A: bits} }
func halted(tick, why int) api.Mark      { return api.Mark{Tick: tick, Sort: api.Halted, A: why} }
func dropped(tick, what int) api.Mark    { return api.Mark{Tick: tick, Sort: api.Dropped, A: what} }
func said(tick int, s string) api.Mark   { return api.Mark{Tick: tick, Sort: api.Said, Data: s} }
func memory(tick int, s string) api.Mark { return api.Mark{Tick: tick, Sort: api.Memory, Data: s} }
func posted(tick, k, status, n int) api.Mark {
	return api.Mark{Tick: tick, Sort: api.Posted, A: k, B: status, N: n}
}

// alike asks whether two machines are the same, as far as they tell.
func alike(t *testing.T, x, y *machine.Machine) {
	t.Helper()
	if x.Tick() != y.Tick() || x.Owners() != y.Owners() || len(mem.Diff(x.Memory(), y.Memory())) != 0 {
		t.Fatal(x.Tick(), y.Tick(), x.Owners(), y.Owners(), mem.Diff(x.Memory(), y.Memory()))
	}
	for owner := 1; owner <= x.Owners(); owner++ {
		if !slices.Equal(x.Trace(owner), y.Trace(owner)) || x.Text(owner) != y.Text(owner) ||
			x.State(owner) != y.State(owner) || x.Counts(owner) != y.Counts(owner) || x.Server().Busy(owner) != y.Server().Busy(owner) {
			t.Fatal(x.Tick(), owner, x.State(owner), y.State(owner), x.Counts(owner), y.Counts(owner))
		}
	}
}

func TestBoot(t *testing.T) { // P31.1, P31.2
	c := tables()
	x := booted(t, c, "\x01\x02", strings.Repeat("z", 64))
	if x.Tick() != 0 || x.Owners() != 2 {
		t.Fatal(x.Tick(), x.Owners())
	}
	for owner := 1; owner <= 2; owner++ {
		if len(x.Trace(owner)) != 0 || x.State(owner) != (cpu.State{}) || x.Counts(owner) != (machine.Counts{}) {
			t.Fatal(owner, x.Trace(owner), x.State(owner), x.Counts(owner))
		}
	}
	if x.Text(1) != "\x01\x02"+strings.Repeat("\x00", 94) || x.Text(2) != strings.Repeat("z", 64) {
		t.Fatalf("%q %q", x.Text(1), x.Text(2))
	}
	want := mem.New(api.Physical)
	want.Put(128, "\x01\x02")
	want.Put(224, strings.Repeat("z", 64))
	if m := x.Memory(); m.Size() != api.Physical || len(mem.Diff(m, want)) != 0 {
		t.Fatal(m.Size(), mem.Diff(m, want))
	}
}

// P31.1: who has no program has an empty one; an empty one may be there, too.
func TestFewerPrograms(t *testing.T) {
	for _, l := range [][]string{nil, {}, {""}, {"", ""}} {
		x := booted(t, tables(), l...)
		if len(mem.Diff(x.Memory(), mem.New(api.Physical))) != 0 || x.Owners() != 2 {
			t.Fatal(l)
		}
		steps(t, x, 40, nil)
		told(t, x, 1, halted(4, 0))
		told(t, x, 2, halted(12, 0))
	}
	x := booted(t, tables(), "\x05")
	if x.Text(1)[0] != 5 || strings.Trim(x.Text(2), "\x00") != "" {
		t.Fatal("another one's")
	}
}

// refused asks for an error, with nothing beside it but the faults.
func refused(t *testing.T, img string, programs []string, why api.Errno, faults ...api.Fault) {
	t.Helper()
	x, l, e := machine.Boot(img, programs)
	if x != nil || e != why || !slices.Equal(l, faults) {
		t.Fatal(x != nil, l, e)
	}
	x, l, e = machine.Run(api.Script{Image: img, Programs: programs, Ticks: make([][]api.Event, 3)})
	if x != nil || e != why || !slices.Equal(l, faults) {
		t.Fatal("Run", x != nil, l, e)
	}
}

func TestBootErrors(t *testing.T) { // P31.1, T4
	c := tables()
	img := printed(t, c)
	long := strings.Repeat("x", 97)
	refused(t, "", nil, api.ErrEnd)
	refused(t, "a", nil, api.ErrEnd)
	refused(t, img[:len(img)-1], nil, api.ErrCheck)
	refused(t, "X"+img[1:], nil, api.ErrCheck)
	refused(t, img+"a", []string{"", "", ""}, api.ErrCheck) // it is named ahead of the programs
	refused(t, img, []string{"", "", ""}, api.ErrArg)
	refused(t, img, []string{long, "", ""}, api.ErrArg)
	refused(t, img, []string{long}, api.ErrLimit)
	refused(t, img, []string{long[:96], long[:65]}, api.ErrLimit)
	c.Clients[0].Quota, c.Windows[2].From = 3, 11
	bad := printed(t, c)
	for _, l := range [][]string{nil, {long}, {"", "", ""}} {
		refused(t, bad, l, api.ErrFit, api.Fault{Row: 3, Why: conf.WindowMeets}, api.Fault{Row: 1, Why: conf.BadQuota})
	}
	if x, l, e := machine.Boot(img, []string{long[:96], long[:64]}); x == nil || len(l) != 0 || e != api.OK {
		t.Fatal(l, e)
	}
}

func TestRun(t *testing.T) { // P31.1
	c := tables()
	s := api.Script{Image: printed(t, c), Programs: []string{program(t, c.Clients[0], loop, "", hear(80, 2))}}
	for n := range 60 {
		x, l, e := machine.Run(s)
		if e != api.OK || len(l) != 0 {
			t.Fatal(l, e)
		}
		y := booted(t, c, s.Programs...)
		for _, l := range s.Ticks {
			y.Step(l)
		}
		if x.Tick() != n {
			t.Fatal(n, x.Tick())
		}
		alike(t, x, y)
		s.Ticks = append(s.Ticks, []api.Event{come(10, n), come(20, n)}[:n%3])
	}
}

func TestExample(t *testing.T) {
	x := booted(t, tables())
	none := strings.Repeat("\x00", 96)
	steps(t, x, 4, nil)
	if len(x.Trace(1)) != 0 {
		t.Fatal(x.Trace(1))
	}
	steps(t, x, 40, nil)
	if l := x.Trace(1); !slices.Equal(l, []api.Mark{memory(4, none), halted(4, 0), memory(24, none)}) {
		t.Fatal(l)
	}
	if s := x.State(1); s != (cpu.State{Mode: cpu.Stopped}) {
		t.Fatal(s)
	}
}

// P31.1: a client has one step at each tick of its window, and none at another one; none while it rests.
func TestWindows(t *testing.T) {
	x := booted(t, tables(), program(t, tables().Clients[0], "set r1 1\nset r2 2\nset r3 3\nset r4 4\nset r5 5\nset r6 6\nset r7 7\nset r0 8\nset r1 9\nrest", ""),
		program(t, tables().Clients[1], "set r1 1\nrest\nset r2 2\nrest\nset r3 3", ""))
	pcs := func(tick, pc1, pc2 int) {
		t.Helper()
		steps(t, x, tick-x.Tick(), nil)
		if x.State(1).Pc != pc1 || x.State(2).Pc != pc2 {
			t.Fatal(tick, x.State(1), x.State(2))
		}
	}
	pcs(4, 0, 0)
	for n := range 9 {
		pcs(4+n, 4*n, 0)
	}
	pcs(13, 32, 4)
	pcs(14, 32, 8)
	pcs(24, 32, 8)
	pcs(25, 36, 8)
	pcs(26, 40, 8)
	pcs(32, 40, 8)
	pcs(33, 40, 12)
	pcs(34, 40, 16)
	pcs(40, 40, 16)
	if s := x.State(1); s.R != [8]int{8, 9, 2, 3, 4, 5, 6, 7} || s.Mode != cpu.Rests {
		t.Fatal(s)
	}
	told(t, x, 2)
}

// P31.1: what comes raises a bit, which is delivered when the next window begins, and not taken till it is asked for.
func TestBits(t *testing.T) {
	c := tables()
	text := "rest\nrest\nrest\n" + loop // it asks at 64, and behind
	l := events{5: {come(10, 1)}, 24: {packet(t, 1, "a")}, 47: {packet(t, 1, "b")}, 90: {come(20, 1), packet(t, 2, "c")}, 124: {come(10, 2)}}
	x := steps(t, booted(t, c, program(t, c.Clients[0], text, "")), 150, l)
	told(t, x, 1, waked(24, api.Heard|api.Came), waked(64, api.Came), called(64, 4, api.Heard|api.Came), called(85, 4, 0), called(105, 4, 0),
		waked(124, api.Heard), called(125, 4, api.Heard), called(145, 4, 0))
	told(t, x, 2, halted(12, 0), waked(92, api.Heard|api.Came))
}

// P31.1: other hypercalls take no bits.
func TestBitsStay(t *testing.T) {
	c := tables()
	text := "rest\ncall r1 1\ncall r1 2\ncall r1 3\ncall r1 5\ncall r1 6\ncall r1 4\ncall r1 4"
	x := steps(t, booted(t, c, program(t, c.Clients[0], text, "")), 32, events{4: {come(10, 1)}, 5: {come(10, 1)}, 6: {come(10, 1)}})
	told(t, x, 1, waked(4, api.Heard), dropped(6, 1), waked(24, api.Heard), called(24, 1, 24), called(25, 2, 0), called(26, 3, 1),
		called(27, 5, 1), called(28, 6, 65535), called(29, 4, api.Heard), called(30, 4, 0), halted(31, 0))
}

// P31.1: events come ahead of all else of their tick: they raise bits for a window that begins then, are heard by a unit
// that ends then, and are counted in what a client is told then.
func TestEventsFirst(t *testing.T) {
	c := tables()
	text := "call r1 4\ncall r1 3\nset r2 80\nread r3 r2\nrest"
	l := events{4: {come(10, 7)}, 5: {come(10, 8), come(10, 9), packet(t, 1, ""), packet(t, 1, ""), packet(t, 1, "")}}
	p := program(t, c.Clients[0], text, "", hear(80, 1))
	x := steps(t, booted(t, c, p), 8, l)
	if l := x.Trace(1); !slices.Equal(l, []api.Mark{memory(4, p+strings.Repeat("\x00", 22)), waked(4, api.Heard), called(4, 4, api.Heard),
		dropped(5, 1), dropped(5, 2), called(5, 3, 2)}) {
		t.Fatal(l)
	}
	if x.State(1).R[3] != 7 {
		t.Fatal(x.State(1))
	}
	c.Clients[0].Queue = 0
	y := steps(t, booted(t, c, p), 5, events{4: {come(10, 7)}})
	if l := at(y, 1, 4); len(l) != 3 || l[0] != dropped(4, 1) || l[1].Sort != api.Memory || l[2] != called(4, 4, 0) {
		t.Fatal(l)
	}
	// What comes at the last tick of a unit is heard in it.
	z := steps(t, booted(t, tables(), p), 8, events{7: {come(10, 77)}})
	if z.State(1).R[3] != 77 {
		t.Fatal(z.State(1))
	}
}

// P31.1: events come in their order: the first one finds room.
func TestEventsInOrder(t *testing.T) {
	c := tables()
	c.Clients[0].Queue = 1
	for _, l := range [][]api.Event{{come(10, 65), come(10, 66)}, {come(10, 66), come(10, 65)}} {
		x := steps(t, booted(t, c, program(t, c.Clients[0], "rest", "", hear(80, 2))), 8, events{1: l})
		if x.Text(1)[80:82] != string([]byte{byte(l[0].Byte), 0}) {
			t.Fatalf("%q", x.Text(1)[80:])
		}
	}
}

// P31.1: a window begins ahead of what the I/O partition does at that tick, and a client's step comes behind it.
func TestServerBetween(t *testing.T) {
	c := tables()
	c.Slots = []api.Slot{{Owner: 1, From: 1, To: 5}, {Owner: 2, From: 8, To: 12}} // a unit of the owner 1 ends at 4, where its window begins
	c.Clients[0].Quota = 1
	text := "rest\nset r2 75\nread r1 r2\ncall r3 1\nrest\ncall r3 1\nrest"
	p := program(t, c.Clients[0], text, "yz", hear(75, 1), say(74, 2))
	x := steps(t, booted(t, c, p), 60, events{9: {come(10, 65)}})
	rest := strings.Repeat("\x00", 20)
	got := at(x, 1, 24)
	if len(got) != 2 || got[0].Data[74:] != "yz"+rest || got[1] != waked(24, api.Heard) {
		t.Fatal(got) // the byte goes to its place at 24, but behind
	}
	if got := at(x, 1, 44); len(got) != 4 || got[0].Data[74:] != "yA"+rest || got[1] != waked(44, api.Completed) ||
		got[2] != said(44, "yA") || got[3] != called(44, 1, 44) {
		t.Fatal(got)
	}
	if x.State(1).R[1] != 65 {
		t.Fatal(x.State(1))
	}
	// In one tick, the unit's last one, a client reads what a unit wrote, and writes behind what it read.
	c = tables()
	x = steps(t, booted(t, c, program(t, c.Clients[0], "set r1 90\nset r2 65\nread r3 r1\nread r3 r1\nrest", "", hear(90, 1))), 8, events{0: {come(10, 66)}})
	if x.State(1).R[3] != 66 {
		t.Fatal(x.State(1))
	}
	p = program(t, c.Clients[0], "set r1 74\nset r2 65\nread r3 r1\nwrite r2 r1\ncall r3 1\nrest", "x", say(74, 1))
	x = steps(t, booted(t, c, p), 24, nil)
	told(t, x, 1, said(7, "x"), called(8, 1, 8), posted(20, 0, 1, 1))
	if x.Text(1)[74] != 65 {
		t.Fatalf("%q", x.Text(1)[74:])
	}
}

// P31.1: what a client is told: the tick, the frame, what was completed, what had no room, and its bits.
func TestFacts(t *testing.T) {
	c := tables()
	text := "again:\ncall r1 1\ncall r2 5\ncall r3 2\ncall r4 3\ncall r5 4\nrest\njump again"
	l := events{30: {come(10, 1), come(10, 2), come(10, 3)}, 31: {packet(t, 1, ""), packet(t, 1, ""), packet(t, 1, ""), packet(t, 1, "")}, 32: {come(20, 1), come(20, 1)}}
	x := steps(t, booted(t, c, program(t, c.Clients[0], text, "", say(0, 1), api.Desc{}, say(0, 2))), 70, l)
	facts := func(tick, done, drops, bits int) []api.Mark {
		return []api.Mark{called(tick, 1, tick), called(tick+1, 5, tick/20), called(tick+2, 2, done), called(tick+3, 3, drops), called(tick+4, 4, bits)}
	}
	calls := slices.DeleteFunc(x.Trace(1), func(m api.Mark) bool { return m.Sort != api.Called })
	if want := slices.Concat(facts(4, 0, 0, 0), facts(25, 3, 0, 1), facts(45, 3, 3, 6), facts(65, 3, 3, 0)); !slices.Equal(calls, want) {
		t.Fatal(calls, "not", want)
	}
}

// P31.1: a hypercall's result is what 65536 leaves of the number.
func TestFactsGoRound(t *testing.T) {
	c := api.Config{
		Frame:   6,
		Windows: []api.Window{{Owner: 0, From: 0, To: 2}, {Owner: 1, From: 2, To: 6}},
		Slots:   []api.Slot{{Owner: 1, From: 2, To: 6}},
		Clients: []api.Client{{Base: 128, Size: 32, Ring: 1, At: 20, Quota: 1}},
	}
	s, _, _ := asm.Assemble("again:\ncall r1 1\ncall r2 5\nrest\njump again")
	x := steps(t, booted(t, c, s), 6*66000, nil)
	if r := x.State(1).R; r[1] != 6*65999%65536+3 || r[2] != 65999-65536 {
		t.Fatal(r)
	}
}

// P31.1: marks, and bits, are those of whom they are for alone; what is nobody's has none.
func TestOwnTraces(t *testing.T) {
	c := tables()
	p1 := program(t, c.Clients[0], loop, "one", say(74, 3))
	p2 := program(t, c.Clients[1], loop, "two", say(58, 3), api.Desc{What: 7})
	l := events{
		2:  {come(11, 1), packet(t, 3, "x"), {}, {Kind: 9, Channel: 10}, {Kind: api.Packet, Data: "junk"}, {Kind: api.Tone, Channel: 10}},
		30: {come(20, 1), come(20, 2), {Kind: api.Tone, Channel: 20, Tones: tone.Tones(3)}},
	}
	x := steps(t, booted(t, c, p1, p2), 60, l)
	told(t, x, 1, called(4, 4, 0), said(7, "one"), posted(20, 0, 1, 3), waked(24, api.Completed), called(25, 4, api.Completed), called(45, 4, 0))
	told(t, x, 2, said(11, "two"), called(12, 4, 0), posted(22, 0, 1, 3), posted(22, 1, 2, 0), dropped(30, 1), dropped(30, 1),
		waked(32, api.Completed|api.Heard), called(33, 4, api.Completed|api.Heard), called(53, 4, 0))
}

func TestCounts(t *testing.T) { // P31.2
	c := tables()
	x := booted(t, c, program(t, c.Clients[0], "rest", "", say(0, 1), say(0, 1), api.Desc{}, say(0, 1)), "")
	l := events{11: {come(10, 1), come(10, 1), come(10, 1), packet(t, 1, ""), packet(t, 1, ""), packet(t, 1, "")}, 41: {come(10, 1), come(20, 1), come(20, 1)}}
	for _, want := range []struct {
		tick int
		machine.Counts
	}{
		{1, machine.Counts{}}, {2, machine.Counts{Taken: 4, Backlog: 3}}, {4, machine.Counts{Taken: 4, Backlog: 3}},
		{5, machine.Counts{Taken: 4, Backlog: 3, Used: 1}}, {8, machine.Counts{Taken: 4, Backlog: 2, Used: 1}},
		{12, machine.Counts{Taken: 4, Backlog: 2, Used: 1, Drops: 2}}, {20, machine.Counts{Taken: 4, Backlog: 1, Used: 2, Drops: 2}},
		{21, machine.Counts{Taken: 4, Done: 3, Backlog: 1, Used: 2, Drops: 2}}, {40, machine.Counts{Taken: 4, Done: 3, Used: 3, Drops: 2}},
		{42, machine.Counts{Taken: 4, Done: 4, Used: 3, Drops: 3}},
	} {
		steps(t, x, want.tick-x.Tick(), l)
		if got := x.Counts(1); got != want.Counts {
			t.Fatal(want.tick, got, "not", want.Counts)
		}
	}
	if got := x.Counts(2); got != (machine.Counts{Drops: 1}) {
		t.Fatal(got)
	}
}

func TestPlan(t *testing.T) { // P31.3
	x := booted(t, tables())
	for range 30 {
		want, _ := plan.New(tables())
		p := x.Plan()
		if p.Frame() != 20 || p.Owners() != 2 || p.Window(1) != (api.Span{From: 4, To: 12}) || p.When(plan.Collect, 2) != 3 {
			t.Fatal(p)
		}
		for tick := range 50 {
			if p.Runs(tick) != want.Runs(tick) || p.Opens(tick) != want.Opens(tick) || p.Duty(tick) != want.Duty(tick) || p.Bus(tick) != want.Bus(tick) {
				t.Fatal(tick)
			}
		}
		x.Step(nil)
	}
}

// P31.3: the server is a copy, of the memory's state then, with devices of its own.
func TestServer(t *testing.T) {
	c := tables()
	p := program(t, c.Clients[0], "set r2 65\nset r1 75\nrest\nset r2 66\nwrite r2 r1\nrest", "xyz", say(74, 3), hear(75, 1), say(74, 3))
	l := events{3: {come(10, 67), come(10, 68)}}
	for n := range 45 {
		x, twin := steps(t, booted(t, c, p), n, l), steps(t, booted(t, c, p), n, l)
		s := x.Server()
		for owner := range 4 {
			if s.Taken(owner) != x.Counts(owner).Taken || s.Done(owner) != x.Counts(owner).Done || s.Used(owner) != x.Counts(owner).Used || s.Backlog(owner) != x.Counts(owner).Backlog {
				t.Fatal(n, owner)
			}
		}
		x.Step(nil) // what becomes of the machine is not in it
		first, again := twin.Server(), twin.Server()
		for tick := n; tick < n+100; tick++ {
			a, b, c := s.Tick(tick), first.Tick(tick), again.Tick(tick)
			for _, l := range [][]server.Act{b, c} {
				if !slices.EqualFunc(a, l, func(a, b server.Act) bool {
					return a.Owner == b.Owner && a.Bits == b.Bits && slices.Equal(a.Marks, b.Marks)
				}) {
					t.Fatal(n, tick, a, l)
				}
			}
		}
		twin.Step(nil)
		alike(t, x, twin)
		steps(t, x, 60, l)
		steps(t, twin, 60, l)
		alike(t, x, twin)
	}
}

// P31.3: the server's memory is that of its time: what it says is what stood there.
func TestServersMemory(t *testing.T) {
	c := tables()
	c.Slots = []api.Slot{{Owner: 1, From: 13, To: 17}, {Owner: 2, From: 8, To: 12}}
	c.Clients[0].Quota = 1
	x := booted(t, c, program(t, c.Clients[0], "set r2 65\nset r1 74\nwrite r2 r1\nrest", "x", say(74, 1)))
	steps(t, x, 6, nil)
	early := x.Server()
	steps(t, x, 1, nil)
	late := x.Server()
	for tick := 6; tick < 16; tick++ {
		early.Tick(tick)
		late.Tick(tick)
	}
	if a, b := early.Tick(16), late.Tick(16); len(a) != 1 || len(b) != 1 || a[0].Marks[0] != said(16, "x") || b[0].Marks[0] != said(16, "A") {
		t.Fatal(a, b)
	}
}

// P31.3: the memory is a copy, of the state then.
func TestMemory(t *testing.T) {
	c := tables()
	x := booted(t, c, program(t, c.Clients[0], "set r2 65\nset r1 90\nwrite r2 r1\nrest", ""))
	steps(t, x, 6, nil)
	was := x.Memory()
	was.Put(128, strings.Repeat("\xff", 200))
	steps(t, x, 1, nil)
	m := x.Memory()
	if b, _ := m.Get(218); b != 65 || m.Size() != api.Physical {
		t.Fatal(b)
	}
	if b, _ := was.Get(218); b != 255 {
		t.Fatal(b)
	}
	if s, _ := m.Text(128, 96); s != x.Text(1) {
		t.Fatalf("%q", s)
	}
}

// P31.3, P4: a fork goes its own way, and the machine it is of goes on as it would without it.
func TestFork(t *testing.T) {
	c := tables()
	p1 := program(t, c.Clients[0], loop, "abcdefgh", say(74, 2), hear(80, 2), api.Desc{What: api.Take, Addr: 82, Len: 3}, say(80, 5))
	p2 := program(t, c.Clients[1], loop, "", api.Desc{What: api.Store, Len: 16}, api.Desc{What: api.Load, Addr: 1, Len: 16})
	here := events{3: {come(10, 65)}, 24: {come(10, 66), packet(t, 1, "xyz")}, 33: {come(20, 1)}}
	there := events{24: {packet(t, 1, "uvw"), come(10, 70)}, 41: {come(20, 2)}}
	for n := range 50 {
		other := steps(t, steps(t, booted(t, c, p1, p2), n, here), 60, there)
		x := steps(t, booted(t, c, p1, p2), n, here)
		f := x.Fork()
		alike(t, x, f)
		for range 60 { // by turns, so that whatever they share is spoiled
			steps(t, f, 1, there)
			steps(t, x, 1, here)
		}
		alike(t, f, other)
		alike(t, x, steps(t, booted(t, c, p1, p2), n+60, here))
		alike(t, f.Fork().Fork(), other)
	}
}

// P31.2: of who is not there nothing is told, and nothing is spoiled by asking.
func TestOwnersThatAreNotThere(t *testing.T) {
	c := tables()
	x := steps(t, booted(t, c, program(t, c.Clients[0], loop, "", say(0, 1)), program(t, c.Clients[1], loop, "", say(0, 1))), 50, events{5: {come(10, 1), come(10, 1), come(10, 1)}})
	for _, owner := range append([]int{0, 3, 4, 8, 9, 1<<32 + 1}, extremes...) {
		if len(x.Trace(owner)) != 0 || x.Text(owner) != "" || x.State(owner) != (cpu.State{}) || x.Counts(owner) != (machine.Counts{}) {
			t.Fatal(owner)
		}
	}
	if x.Owners() != 2 {
		t.Fatal(x.Owners())
	}
}

func TestNil(t *testing.T) { // P31.3
	var x *machine.Machine
	for range 2 {
		if x.Step(nil) != api.ErrNil || x.Step([]api.Event{come(1, 1)}) != api.ErrNil || x.Tick() != 0 || x.Owners() != 0 {
			t.Fatal("nil")
		}
	}
	for _, owner := range append([]int{0, 1, 2}, extremes...) {
		if x.Trace(owner) != nil || x.Text(owner) != "" || x.State(owner) != (cpu.State{}) || x.Counts(owner) != (machine.Counts{}) {
			t.Fatal(owner)
		}
	}
	if x.Plan() != nil || x.Server() != nil || x.Memory() != nil || x.Fork() != nil {
		t.Fatal("nil")
	}
}

func TestOfOneThatNoCallMade(t *testing.T) { // P1: it does not panic
	var x machine.Machine
	for range 3 {
		x.Step([]api.Event{come(1, 1), packet(t, 1, "x")})
		for _, owner := range append([]int{0, 1, 2}, extremes...) {
			x.Trace(owner)
			x.Text(owner)
			x.State(owner)
			x.Counts(owner)
		}
		x.Server().Tick(0)
		x.Memory().Size()
		x.Plan().Frame()
		x = *x.Fork()
	}
}

// P3: what is answered is new memory; what is handed in stays, and is not kept.
func TestListsAreTheCallers(t *testing.T) {
	c := tables()
	programs := []string{program(t, c.Clients[0], loop, "", hear(80, 2)), "b", "spare"}[:2]
	img := printed(t, c)
	x, _, _ := machine.Boot(img, programs)
	twin, _, _ := machine.Boot(img, []string{programs[0], "b"})
	if !slices.Equal(programs[:3], []string{programs[0], "b", "spare"}) {
		t.Fatal(programs[:3])
	}
	clear(programs)
	for range 45 {
		l := []api.Event{come(10, 1), come(20, 1), come(10, 99)}
		if x.Step(l[:2]); l[0] != come(10, 1) || l[1] != come(20, 1) || l[2] != come(10, 99) {
			t.Fatal(l)
		}
		clear(l)
		twin.Step([]api.Event{come(10, 1), come(20, 1)})
		for owner := 1; owner <= 2; owner++ {
			trace := x.Trace(owner)
			clear(trace[:cap(trace)])
		}
		alike(t, x, twin)
	}
	c.Clients[0].Quota = 9
	bad := printed(t, c)
	_, l, _ := machine.Boot(bad, nil)
	clear(l[:cap(l)])
	refused(t, bad, nil, api.ErrFit, api.Fault{Row: 1, Why: conf.BadQuota})
}

// P31.5: whatever comes, and whatever is asked of the tables, a step ends.
func TestAnyEvents(t *testing.T) {
	c := tables()
	x := booted(t, c, program(t, c.Clients[0], loop, "", hear(80, 2)))
	var l []api.Event
	nan := complex(math.NaN(), math.Inf(1))
	for _, n := range append([]int{0, 1, 10, 20}, extremes...) {
		for kind := range 256 {
			l = append(l, api.Event{Kind: api.Kind(kind), Channel: n, Byte: n, Tones: [4]complex128{nan, 1, nan, 0}, Data: strings.Repeat("\x01", kind)})
			l = append(l, api.Event{Kind: api.Kind(kind), Channel: 10, Byte: n})
		}
	}
	steps(t, x, 30, events{0: l, 5: l, 7: l, 20: l, 24: l})
	drops := 0
	for _, m := range x.Trace(1) {
		if m.Sort == api.Dropped {
			drops++
		}
	}
	if drops == 0 || x.Counts(1).Drops != drops {
		t.Fatal(x.Counts(1), drops)
	}
}

// P31.1, P31.2: as many clients as there may be, and rows in any order.
func TestMostClients(t *testing.T) {
	d := dice(7)
	c := drawnTables(&d, api.MaxClients)
	img := printed(t, c)
	if got, _, e := image.Boot(img); e != api.OK || !image.Same(got, c) {
		t.Fatal(e)
	}
	x := booted(t, c, make([]string, api.MaxClients)...)
	if x.Owners() != api.MaxClients {
		t.Fatal(x.Owners())
	}
	refused(t, img, make([]string, api.MaxClients+1), api.ErrArg)
	steps(t, x, 2*c.Frame, nil)
	for owner := 1; owner <= api.MaxClients; owner++ {
		if len(x.Trace(owner)) != 3 || x.Text(owner) != strings.Repeat("\x00", c.Clients[owner-1].Size) {
			t.Fatal(owner, x.Trace(owner))
		}
	}
}
