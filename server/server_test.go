package server_test

import (
	"math"
	"slices"
	"testing"

	"campanile/api"
	"campanile/mem"
	"campanile/plan"
	"campanile/serve"
	"campanile/server"
)

// The calls have just these signatures.
var (
	_ func(p *plan.Plan, m *mem.Memory, d *serve.Devices) *server.Server     = server.New
	_ func(s *server.Server, tick int) []server.Act                          = (*server.Server).Tick
	_ func(s *server.Server, owner int) int                                  = (*server.Server).Taken
	_ func(s *server.Server, owner int) int                                  = (*server.Server).Done
	_ func(s *server.Server, owner int) int                                  = (*server.Server).Backlog
	_ func(s *server.Server, owner int) int                                  = (*server.Server).Used
	_ func(s *server.Server, owner int) bool                                 = (*server.Server).Busy
	_ func(s *server.Server, m *mem.Memory, d *serve.Devices) *server.Server = (*server.Server).Fork
	_                                                                        = struct {
		Owner, Bits int
		Marks       []api.Mark
	}(server.Act{})
)

// extremes are numbers of which some go round if anything is added to them.
var extremes = []int{math.MinInt, math.MinInt + 1, math.MinInt32, -65537, -40, -1, math.MaxInt32, 1 << 32, math.MaxInt - 1, math.MaxInt}

// dice are numbers that come the same each time.
type dice uint32

// below is a number from 0 on, below n.
func (d *dice) below(n int) int {
	*d = *d*1664525 + 1013904223
	return int(uint32(*d)>>8) % n
}

// text is n drawn bytes.
func (d *dice) text(n int) string {
	out := make([]byte, n)
	for i := range out {
		out[i] = byte(d.below(256))
	}
	return string(out)
}

// leaves is what n leaves of a number, from 0 on.
func leaves(number, n int) int { return (number%n + n) % n }

// tables are those of three clients. Post and Collect are at 20 and 21 of the owner 1, at 22 and 23 of 2, at 24 and 25
// of 3. Units begin at 0, 4 and 17 of the owner 1, whose last one ends at its Post; at 9 of 2; at 22, 26, 30 and 34 of 3.
func tables() api.Config {
	return api.Config{
		Frame:   40,
		Windows: []api.Window{{Owner: 1, From: 4, To: 20}, {Owner: 0, From: 20, To: 26}, {Owner: 2, From: 30, To: 40}, {Owner: 3, From: 26, To: 30}},
		Slots:   []api.Slot{{Owner: 1, From: 0, To: 9}, {Owner: 2, From: 9, To: 13}, {Owner: 1, From: 17, To: 21}, {Owner: 3, From: 22, To: 40}},
		Clients: []api.Client{
			{Base: 128, Size: 64, Ring: 4, At: 30, Quota: 3, Queue: 4, Mac: 0, Channel: 10, First: 60, Sectors: 4},
			{Base: 192, Size: 64, Ring: 2, At: 14, Quota: 1, Queue: 2, Mac: 2, Channel: 0, First: 64, Sectors: 0},
			{Base: 16384 - 100, Size: 100, Ring: 1, At: 40, Quota: 4, Queue: 2, Mac: 255, Channel: 255, First: 64, Sectors: 3},
		},
	}
}

// whole is a server with all that it has.
type whole struct {
	*server.Server
	c api.Config
	m *mem.Memory
	d *serve.Devices
}

// of is a server of tables, all of whose memory is 0.
func of(t *testing.T, c api.Config) *whole {
	t.Helper()
	m := mem.New(api.Physical)
	d, e := serve.New(c, m)
	p, f := plan.New(c)
	if e != api.OK || f != api.OK {
		t.Fatal(e, f)
	}
	s := server.New(p, m, d)
	if s == nil {
		t.Fatal("none")
	}
	return &whole{s, c, m, d}
}

// fork is a server by itself, with a memory and devices by themselves.
func (w *whole) fork() *whole {
	m := w.m.Fork()
	d := w.d.Fork(m)
	return &whole{w.Fork(m, d), w.c, m, d}
}

// asks writes an owner's descriptors from the k'th on, and that they are all that was put.
func (w *whole) asks(owner, k int, l ...api.Desc) {
	row := w.c.Clients[owner-1]
	for i, x := range l {
		at := row.Base + row.At + 2 + 8*((k+i)%row.Ring)
		w.m.Set(at, int(x.What))
		w.m.Set(at+1, int(x.Status))
		w.m.Set2(at+2, x.Addr)
		w.m.Set2(at+4, x.Len)
		w.m.Set2(at+6, x.Arg)
	}
	w.m.Set(row.Base+row.At, k+len(l))
}

// entry is what stands in the k'th place of an owner's ring: status and length.
func (w *whole) entry(k, owner int) (int, int) {
	row := w.c.Clients[owner-1]
	at := row.Base + row.At + 2 + 8*(k%row.Ring)
	status, _ := w.m.Get(at + 1)
	n, _ := w.m.Get2(at + 4)
	return status, n
}

// ringDone is the byte that tells the owner how many were completed.
func (w *whole) ringDone(owner int) int {
	row := w.c.Clients[owner-1]
	b, _ := w.m.Get(row.Base + row.At + 1)
	return b
}

// quiet does the ticks from one on, up to another one, at which nothing is to be told.
func (w *whole) quiet(t *testing.T, from, to int) {
	t.Helper()
	for tick := from; tick < to; tick++ {
		w.tells(t, tick)
	}
}

// tells does a tick, at which just this is to be told.
func (w *whole) tells(t *testing.T, tick int, want ...server.Act) {
	t.Helper()
	if l := w.Tick(tick); !same(l, want) {
		t.Fatal(tick, l, "not", want)
	}
}

// numbers asks for what is told of an owner: taken, done, backlog, used.
func (w *whole) numbers(t *testing.T, owner, taken, done, backlog, used int, busy bool) {
	t.Helper()
	got := [4]int{w.Taken(owner), w.Done(owner), w.Backlog(owner), w.Used(owner)}
	if got != [4]int{taken, done, backlog, used} || w.Busy(owner) != busy {
		t.Fatal(owner, got, w.Busy(owner), "not", taken, done, backlog, used, busy)
	}
}

func same(a, b []server.Act) bool {
	return slices.EqualFunc(a, b, func(x, y server.Act) bool {
		return x.Owner == y.Owner && x.Bits == y.Bits && slices.Equal(x.Marks, y.Marks)
	})
}

// told is an act of the bus.
func told(owner int, l ...api.Mark) server.Act {
	return server.Act{Owner: owner, Marks: l}
}

// posted is an act of a Post.
func posted(owner int, l ...api.Mark) server.Act {
	return server.Act{Owner: owner, Bits: api.Completed, Marks: l}
}

func said(tick int, s string) api.Mark {
	return api.Mark{Tick: tick, Sort: api.Said, Data: s}
}

func closed(tick, k, status, n int) api.Mark {
	return api.Mark{Tick: tick, Sort: api.Posted, A: k, B: status, N: n}
}

// say is a descriptor that asks for n bytes to be said, hear and so on likewise.
func say(addr, n int) api.Desc  { return api.Desc{What: api.Say, Addr: addr, Len: n} }
func hear(addr, n int) api.Desc { return api.Desc{What: api.Hear, Addr: addr, Len: n} }
func bad() api.Desc             { return api.Desc{What: 9} }

func TestNew(t *testing.T) { // P30.1
	c := tables()
	p, _ := plan.New(c)
	m := mem.New(api.Physical)
	d, _ := serve.New(c, m)
	if server.New(nil, m, d) != nil || server.New(p, nil, d) != nil || server.New(p, m, nil) != nil || server.New(nil, nil, nil) != nil {
		t.Fatal("one of them is nil")
	}
	s := server.New(p, m, d)
	if s == nil {
		t.Fatal("none")
	}
	for owner := range 6 {
		if s.Taken(owner) != 0 || s.Done(owner) != 0 || s.Backlog(owner) != 0 || s.Used(owner) != 0 || s.Busy(owner) {
			t.Fatal(owner)
		}
	}
}

// Collect, first and last tick of a unit, and Post, each at its tick and at no other one.
func TestOneRequest(t *testing.T) { // P30.1, P30.2
	w := of(t, tables())
	w.m.Put(128, "abcdefgh")
	w.asks(1, 0, say(2, 3))
	w.quiet(t, 0, 21)
	w.numbers(t, 1, 0, 0, 0, 0, false)
	w.quiet(t, 21, 22)
	w.numbers(t, 1, 1, 0, 1, 0, false)
	w.quiet(t, 22, 40)
	w.numbers(t, 1, 1, 0, 1, 0, false)
	for tick := 40; tick < 43; tick++ {
		w.quiet(t, tick, tick+1)
		w.numbers(t, 1, 1, 0, 1, 1, true)
	}
	w.tells(t, 43, told(1, said(43, "cde")))
	w.numbers(t, 1, 1, 0, 0, 1, false)
	w.quiet(t, 44, 60)
	w.numbers(t, 1, 1, 0, 0, 1, false)
	if status, n := w.entry(0, 1); status != 0 || n != 3 || w.ringDone(1) != 0 {
		t.Fatal(status, n)
	}
	w.tells(t, 60, posted(1, closed(60, 0, api.Good, 3)))
	w.numbers(t, 1, 1, 1, 0, 1, false)
	if status, n := w.entry(0, 1); status != 1 || n != 3 || w.ringDone(1) != 1 {
		t.Fatal(status, n)
	}
	w.quiet(t, 61, 400)
	w.numbers(t, 1, 1, 1, 0, 1, false)
	w.numbers(t, 2, 0, 0, 0, 0, false)
	w.numbers(t, 3, 0, 0, 0, 0, false)
}

// P30.1: each owner's units and duties are at its own ticks.
func TestEachOwner(t *testing.T) {
	w := of(t, tables())
	w.m.Put(128, "one")
	w.m.Put(192, "two")
	w.m.Put(api.Physical-100, "three")
	w.asks(1, 0, say(0, 3))
	w.asks(2, 0, say(0, 3), say(1, 1))
	w.asks(3, 0, say(0, 5))
	w.quiet(t, 0, 22)
	w.numbers(t, 1, 1, 0, 1, 0, false)
	w.numbers(t, 2, 0, 0, 0, 0, false)
	w.quiet(t, 22, 24)
	w.numbers(t, 2, 2, 0, 2, 0, false)
	w.numbers(t, 3, 0, 0, 0, 0, false)
	w.quiet(t, 24, 26)
	w.numbers(t, 3, 1, 0, 1, 0, false) // the unit from 22 on ends here, but does not go on
	w.quiet(t, 26, 29)
	w.numbers(t, 3, 1, 0, 1, 1, true)
	w.tells(t, 29, told(3, said(29, "three")))
	w.quiet(t, 30, 43)
	w.tells(t, 43, told(1, said(43, "one")))
	w.quiet(t, 44, 52)
	w.numbers(t, 2, 2, 0, 2, 1, true)
	w.tells(t, 52, told(2, said(52, "two")))
	w.quiet(t, 53, 60)
	w.tells(t, 60, posted(1, closed(60, 0, 1, 3)))
	w.quiet(t, 61, 62)
	w.tells(t, 62, posted(2, closed(62, 0, 1, 3)))
	w.numbers(t, 2, 2, 1, 1, 1, false)
	w.quiet(t, 63, 64)
	w.tells(t, 64, posted(3, closed(64, 0, 1, 5)))
	w.quiet(t, 65, 92)
	w.tells(t, 92, told(2, said(92, "w")))
	w.quiet(t, 93, 102)
	w.tells(t, 102, posted(2, closed(102, 1, 1, 1)))
	w.numbers(t, 1, 1, 1, 0, 1, false)
	w.numbers(t, 2, 2, 2, 0, 2, false)
	w.numbers(t, 3, 1, 1, 0, 1, false)
}

// P30.1: first the bus's: what is done at a tick is posted at that tick, in an act of its own.
func TestBusFirst(t *testing.T) {
	w := of(t, tables())
	w.m.Put(128, "abc")
	w.asks(1, 0, say(0, 1), say(1, 1), say(2, 1), bad())
	w.quiet(t, 0, 43)
	w.tells(t, 43, told(1, said(43, "a")))
	w.quiet(t, 44, 47)
	w.tells(t, 47, told(1, said(47, "b")))
	w.quiet(t, 48, 60)
	w.numbers(t, 1, 4, 0, 1, 3, true)
	w.tells(t, 60, told(1, said(60, "c")), posted(1, closed(60, 0, 1, 1), closed(60, 1, 1, 1), closed(60, 2, 1, 1), closed(60, 3, 2, 0)))
	w.numbers(t, 1, 4, 4, 0, 3, false)
	if w.ringDone(1) != 4 {
		t.Fatal(w.ringDone(1))
	}
}

// P30.1: what is collected at the first tick of a unit waits for the next one, and so does what is collected in a unit.
func TestCollectedTooLate(t *testing.T) {
	for from := 18; from < 23; from++ {
		c := tables()
		c.Slots[2] = api.Slot{Owner: 1, From: from, To: from + 4}
		c.Slots[3].From = 30
		c.Slots[0].To = 4 // the unit at 0 is the only other one
		c.Clients[0].Quota, c.Clients[2].Quota = 2, 1
		w := of(t, c)
		w.asks(1, 0, say(0, 2))
		end := 43
		if from > 21 {
			end = from + 3
		}
		w.quiet(t, 0, end)
		w.tells(t, end, told(1, said(end, "\x00\x00")))
	}
}

// P30.1, P30.4: with a quota of one or two that many are served in a frame, however many units there are.
func TestQuota(t *testing.T) {
	for quota := 1; quota <= 3; quota++ {
		c := tables()
		c.Clients[0].Quota = quota
		w := of(t, c)
		w.m.Put(128, "abcd")
		w.asks(1, 0, say(0, 1), say(1, 1), say(2, 1), say(3, 1))
		ends := []int{43, 47, 60, 83, 87, 100, 123, 127, 140, 163, 167, 180}
		want := map[int]string{}
		for i, s := range []string{"a", "b", "c", "d"} {
			want[ends[3*(i/quota)+i%quota]] = s
		}
		for tick := range 200 {
			used := w.Used(1)
			for _, a := range w.Tick(tick) {
				for _, k := range a.Marks {
					if k.Sort == api.Said && want[tick] != k.Data {
						t.Fatal(quota, tick, k)
					}
					if k.Sort == api.Said {
						delete(want, tick)
					}
				}
			}
			if w.Used(1) > used+1 || w.Used(1) > (tick/40)*quota {
				t.Fatal(quota, tick, w.Used(1))
			}
		}
		if len(want) > 0 || w.Used(1) != 4 {
			t.Fatal(quota, want)
		}
	}
}

// P30.1: without a request that waits no unit is used, so a later one of that frame may be.
func TestNothingIsUsedForNothing(t *testing.T) {
	c := tables()
	c.Clients[2].Quota = 1
	w := of(t, c)
	w.quiet(t, 0, 24)
	w.asks(3, 0, say(0, 1))
	w.quiet(t, 24, 29)
	w.numbers(t, 3, 1, 0, 1, 1, true)
	w.tells(t, 29, told(3, said(29, "\x00")))
	w.quiet(t, 30, 64)
	w.tells(t, 64, posted(3, closed(64, 0, 1, 1)))
	w.asks(3, 1, bad())
	w.quiet(t, 65, 104)
	w.numbers(t, 3, 2, 1, 0, 1, false) // what is Bad needs no unit
	w.tells(t, 104, posted(3, closed(104, 1, 2, 0)))
	w.numbers(t, 3, 2, 2, 0, 1, false)
}

// P30.1, P30.2: wrong requests are posted with their status, in order, and behind those ahead of them.
func TestWrongOnes(t *testing.T) {
	w := of(t, tables())
	w.asks(1, 0, bad(), say(0, 1), bad(), say(64, 1))
	w.quiet(t, 0, 22)
	w.numbers(t, 1, 4, 0, 1, 0, false)
	w.quiet(t, 22, 43)
	w.tells(t, 43, told(1, said(43, "\x00")))
	w.numbers(t, 1, 4, 0, 0, 1, false)
	w.quiet(t, 44, 60)
	w.tells(t, 60, posted(1, closed(60, 0, 2, 0), closed(60, 1, 1, 1), closed(60, 2, 2, 0), closed(60, 3, 2, 0)))
	for k, want := range [][2]int{{2, 0}, {1, 1}, {2, 0}, {2, 0}} {
		if status, n := w.entry(k, 1); status != want[0] || n != want[1] {
			t.Fatal(k, status, n)
		}
	}
	w.numbers(t, 1, 4, 4, 0, 1, false)
}

// P30.1: what is Bad ahead of one that waits is posted though that one waits yet.
func TestWrongOnesAreNotHeldUp(t *testing.T) {
	c := tables()
	c.Clients[0].Quota = 1
	w := of(t, c)
	w.asks(1, 0, say(0, 1), bad(), say(0, 2), bad())
	w.quiet(t, 0, 43)
	w.tells(t, 43, told(1, said(43, "\x00")))
	w.quiet(t, 44, 60)
	w.tells(t, 60, posted(1, closed(60, 0, 1, 1), closed(60, 1, 2, 0)))
	w.numbers(t, 1, 4, 2, 1, 1, false)
	w.quiet(t, 61, 83)
	w.tells(t, 83, told(1, said(83, "\x00\x00")))
	w.quiet(t, 84, 100)
	w.tells(t, 100, posted(1, closed(100, 2, 1, 2), closed(100, 3, 2, 0)))
}

// P30.1: acts without marks and bits are left out; what is done without marks is posted all the same.
func TestLeftOut(t *testing.T) {
	w := of(t, tables())
	w.d.Come(0, api.Event{Kind: api.Byte, Channel: 10, Byte: 65})
	w.asks(1, 0, hear(5, 4), api.Desc{What: api.Take, Addr: 6, Len: 4}, api.Desc{What: api.Load, Addr: 10, Len: 16})
	w.quiet(t, 0, 60)
	w.numbers(t, 1, 3, 0, 1, 3, true)
	w.tells(t, 60, posted(1, closed(60, 0, 1, 1), closed(60, 1, 1, 0), closed(60, 2, 1, 16)))
	if b, _ := w.m.Get(133); b != 65 {
		t.Fatal(b)
	}
}

// P30.1: serve.Start is done at a unit's first tick, serve.End at its last one.
func TestStartAndEnd(t *testing.T) {
	w := of(t, tables())
	store := api.Desc{What: api.Store, Addr: 0, Len: 16, Arg: 3}
	w.asks(1, 0, store, say(0, 4), api.Desc{What: api.Load, Addr: 4, Len: 16, Arg: 3})
	first := "first tick's one"
	w.m.Put(128, "ahead of it ....")
	w.quiet(t, 0, 40)
	w.m.Put(128, first)
	w.quiet(t, 40, 41)
	w.m.Put(128, "while it goes on")
	w.quiet(t, 41, 43)
	w.tells(t, 43, told(1, api.Mark{Tick: 43, Sort: api.Stored, A: 3, Data: first}))
	w.quiet(t, 44, 47)
	w.m.Put(128, "last")
	w.tells(t, 47, told(1, said(47, "last")))
	w.m.Put(128, "this is said by none")
	w.quiet(t, 48, 60)
	if s, _ := w.m.Text(128, 20); s != "this is said by none" {
		t.Fatal(s)
	}
	w.tells(t, 60, posted(1, closed(60, 0, 1, 16), closed(60, 1, 1, 4), closed(60, 2, 1, 16)))
	if s, _ := w.m.Text(128, 20); s != "this"+first {
		t.Fatal(s)
	}
	if s, _ := w.d.Sector(1, 3); s != first {
		t.Fatal(s)
	}
}

// P30.1: a request has its descriptor as it stood there when it was collected; the rest of it stays as the client has it.
func TestTakenAsItStood(t *testing.T) {
	w := of(t, tables())
	w.m.Put(128, "abcd")
	w.asks(1, 0, say(1, 2))
	w.quiet(t, 0, 22)
	w.asks(1, 0, api.Desc{What: api.Store, Status: 77, Addr: 0x1234, Len: 9, Arg: 0x5678})
	w.quiet(t, 22, 43)
	w.tells(t, 43, told(1, said(43, "bc")))
	w.quiet(t, 44, 60)
	w.tells(t, 60, posted(1, closed(60, 0, 1, 2)))
	if s, _ := w.m.Text(160, 8); s != "\x06\x01\x34\x12\x02\x00\x78\x56" {
		t.Fatalf("%q", s)
	}
}

// P30.1: what End tells is what is posted: devices of a memory that has not all bytes tell Wrong.
func TestWrongEnd(t *testing.T) {
	c := tables()
	m := mem.New(api.Physical)
	d, _ := serve.New(c, mem.New(130))
	p, _ := plan.New(c)
	w := &whole{server.New(p, m, d), c, m, d}
	w.asks(1, 0, say(0, 2), say(0, 3), api.Desc{What: api.Store, Len: 16})
	w.quiet(t, 0, 43)
	w.tells(t, 43, told(1, said(43, "\x00\x00")))
	w.quiet(t, 44, 60)
	w.numbers(t, 1, 3, 0, 1, 3, true)
	w.tells(t, 60, posted(1, closed(60, 0, 1, 2), closed(60, 1, 2, 0), closed(60, 2, 2, 0)))
}

// P30.1: what was handed in is kept: the memory and the devices are those.
func TestKept(t *testing.T) {
	w := of(t, tables())
	w.asks(1, 0, say(0, 2))
	w.quiet(t, 0, 40)
	w.m.Put(128, "xy")
	w.quiet(t, 40, 43)
	w.tells(t, 43, told(1, said(43, "xy")))
	w.d.Come(44, api.Event{Kind: api.Byte, Channel: 0, Byte: 66})
	w.asks(2, 0, hear(0, 1))
	w.quiet(t, 44, 60)
	w.tells(t, 60, posted(1, closed(60, 0, 1, 2)))
	w.quiet(t, 61, 93)
	if b, _ := w.m.Get(192); b != 66 {
		t.Fatal(b)
	}
}

// P30.1: where nothing is done the ring's byte stays, whatever it is.
func TestPostOfNone(t *testing.T) {
	w := of(t, tables())
	row := w.c.Clients[0]
	w.m.Set(row.Base+row.At+1, 99)
	was := w.m.Fork()
	w.quiet(t, 0, 400)
	if len(mem.Diff(w.m, was)) != 0 {
		t.Fatal(mem.Diff(w.m, was))
	}
}

// P30.4: a byte that lies is taken for no more than the ring has places.
func TestByteThatLies(t *testing.T) {
	for _, b := range []int{4, 5, 8, 100, 200, 255} {
		w := of(t, tables())
		w.asks(1, 0, say(0, 1), say(0, 2), say(0, 3), say(0, 4))
		w.m.Set(158, b)
		for tick := range 61 {
			w.Tick(tick)
		}
		w.numbers(t, 1, 4, 3, 1, 3, false) // and not one more, till some are completed
		w.quiet(t, 61, 62)
		w.numbers(t, 1, min(b, 7), 3, min(b, 7)-3, 3, false)
	}
}

// P30.1: taken and done go on behind 255, and round in the ring's bytes.
func TestGoesRound(t *testing.T) {
	w := of(t, tables())
	for k := range 600 {
		w.asks(2, k, say(0, 1))
		from := 40 * k
		for tick := from; tick < from+40; tick++ {
			switch l := w.Tick(tick); {
			case tick == from+12 && k > 0:
				if !same(l, []server.Act{told(2, said(tick, "\x00"))}) {
					t.Fatal(tick, l)
				}
			case tick == from+22 && k > 0:
				if !same(l, []server.Act{posted(2, closed(tick, k-1, 1, 1))}) {
					t.Fatal(tick, l)
				}
			case len(l) != 0:
				t.Fatal(tick, l)
			}
		}
		w.numbers(t, 2, k+1, k, 1, k, false)
		if w.ringDone(2) != k%256 {
			t.Fatal(k, w.ringDone(2))
		}
	}
}

// P30.2: of who is not there nothing is told.
func TestOwnersThatAreNotThere(t *testing.T) {
	w := of(t, tables())
	for owner := 1; owner < 4; owner++ {
		w.asks(owner, 0, say(0, 1))
	}
	for tick := range 130 {
		w.Tick(tick)
	}
	for _, owner := range append([]int{0, 4, 5, 8, 9, 1<<32 + 1}, extremes...) {
		w.numbers(t, owner, 0, 0, 0, 0, false)
	}
}

func TestNil(t *testing.T) { // P30.2
	var s *server.Server
	d, m := of(t, tables()).d, mem.New(9)
	for _, n := range append([]int{0, 1, 2}, extremes...) {
		if len(s.Tick(n)) != 0 || s.Taken(n) != 0 || s.Done(n) != 0 || s.Backlog(n) != 0 || s.Used(n) != 0 || s.Busy(n) {
			t.Fatal(n)
		}
	}
	if s.Fork(m, d) != nil || s.Fork(nil, nil) != nil {
		t.Fatal("nil")
	}
}

func TestOfSomeThatNoCallMade(t *testing.T) { // P1: it does not panic
	w := of(t, tables())
	for _, s := range []*server.Server{{}, new(server.Server).Fork(w.m, w.d), server.New(&plan.Plan{}, &mem.Memory{}, &serve.Devices{}),
		server.New(&plan.Plan{}, w.m, w.d)} {
		for _, n := range append([]int{0, 1, 2, 20, 21, 40}, extremes...) {
			s.Tick(n)
			s.Taken(n)
			s.Done(n)
			s.Backlog(n)
			s.Used(n)
			s.Busy(n)
		}
		s.Fork(w.m, w.d).Tick(3)
	}
	p, _ := plan.New(w.c)
	s := server.New(p, w.m, &serve.Devices{})
	w.asks(1, 0, say(0, 1), api.Desc{What: api.Store, Len: 16})
	for tick := range 90 {
		s.Tick(tick)
	}
}

// P1: any ticks may be asked; of one below 0 nothing is due.
func TestAnyTick(t *testing.T) {
	w := of(t, tables())
	w.asks(1, 0, say(0, 1), hear(0, 1), bad())
	was := w.m.Fork()
	for tick := -1000; tick < 0; tick++ {
		w.quiet(t, tick, tick+1)
	}
	w.quiet(t, math.MinInt, math.MinInt+100)
	if len(mem.Diff(w.m, was)) != 0 {
		t.Fatal(mem.Diff(w.m, was))
	}
	w.numbers(t, 1, 0, 0, 0, 0, false)
	d := dice(4)
	for range 20000 {
		tick := d.below(400)
		if d.below(3) == 0 {
			tick = extremes[d.below(len(extremes))] - d.below(50)
		}
		w.asks(1, d.below(300), api.Desc{What: api.Store, Len: 16}, say(0, 1))
		w.Tick(tick)
		if w.Taken(1)-w.Done(1) > 4 || w.Backlog(1) > 4 {
			t.Fatal(w.Taken(1), w.Done(1))
		}
	}
}

// P30.2, P4: a fork has the memory and the devices that it was given, and goes its own way, also in a unit that goes on.
func TestFork(t *testing.T) {
	w := of(t, tables())
	w.m.Put(128, "abcd")
	w.asks(1, 0, say(0, 1), bad(), say(1, 1))
	w.quiet(t, 0, 42)
	f := w.fork()
	f.numbers(t, 1, 3, 0, 2, 1, true)
	f.m.Put(128, "ABCD")
	f.quiet(t, 42, 43)
	f.tells(t, 43, told(1, said(43, "A")))
	f.quiet(t, 44, 47)
	f.tells(t, 47, told(1, said(47, "B")))
	f.asks(1, 3, say(2, 2))
	f.quiet(t, 48, 60)
	f.tells(t, 60, posted(1, closed(60, 0, 1, 1), closed(60, 1, 2, 0), closed(60, 2, 1, 1)))
	f.quiet(t, 61, 62)
	f.numbers(t, 1, 4, 3, 1, 2, false)
	w.numbers(t, 1, 3, 0, 2, 1, true)
	if w.ringDone(1) != 0 || f.ringDone(1) != 3 {
		t.Fatal("the ring")
	}
	w.quiet(t, 42, 43)
	w.tells(t, 43, told(1, said(43, "a")))
	g := w.fork()
	w.quiet(t, 44, 47)
	w.tells(t, 47, told(1, said(47, "b")))
	w.quiet(t, 48, 60)
	w.tells(t, 60, posted(1, closed(60, 0, 1, 1), closed(60, 1, 2, 0), closed(60, 2, 1, 1)))
	f.numbers(t, 1, 4, 3, 1, 2, false)
	g.numbers(t, 1, 3, 0, 1, 1, false)
	f.quiet(t, 62, 83)
	f.tells(t, 83, told(1, said(83, "CD")))
}

// P30.2, P4: the quota of a fork is its own too.
func TestForkOfQuota(t *testing.T) {
	c := tables()
	c.Clients[0].Quota = 1
	w := of(t, c)
	w.asks(1, 0, say(0, 1), say(0, 1))
	w.quiet(t, 0, 40)
	f := w.fork()
	f.quiet(t, 40, 43)
	f.tells(t, 43, told(1, said(43, "\x00")))
	w.quiet(t, 40, 43)
	w.numbers(t, 1, 2, 0, 2, 1, true)
	w.tells(t, 43, told(1, said(43, "\x00")))
	f.quiet(t, 44, 60)
	f.numbers(t, 1, 2, 0, 1, 1, false)
}

// A memory in which a client's is not there: nothing is collected from it; and what was done can't be written there,
// so nothing is posted, till a fork has one in which it can be.
func TestMemoryThatIsNotThere(t *testing.T) {
	c := tables()
	for _, m := range []*mem.Memory{mem.New(0), mem.New(191)} {
		d, _ := serve.New(c, m)
		p, _ := plan.New(c)
		m.Set(158, 4)
		w := &whole{server.New(p, m, d), c, m, d}
		w.quiet(t, 0, 100)
		w.numbers(t, 1, 0, 0, 0, 0, false)
	}
	w := of(t, c)
	w.asks(1, 0, say(0, 1), bad())
	w.quiet(t, 0, 43)
	w.tells(t, 43, told(1, said(43, "\x00")))
	for _, m := range []*mem.Memory{nil, mem.New(0), mem.New(191)} {
		f := &whole{w.Fork(m, w.d), c, m, w.d}
		f.quiet(t, 44, 100)
		f.numbers(t, 1, 2, 0, 0, 1, false)
		g := &whole{f.Fork(w.m.Fork(), w.d), c, w.m, w.d}
		g.tells(t, 100, posted(1, closed(100, 0, 1, 1), closed(100, 1, 2, 0)))
	}
	f := w.Fork(w.m.Fork(), nil)
	for tick := 44; tick < 100; tick++ {
		f.Tick(tick)
	}
}

// P3: what is answered is new memory.
func TestActsAreNew(t *testing.T) {
	w := of(t, tables())
	w.asks(1, 0, say(0, 1), say(0, 2), say(0, 3))
	f := w.fork()
	for tick := range 70 {
		l := w.Tick(tick)
		for _, a := range l {
			clear(a.Marks[:cap(a.Marks)])
		}
		clear(l[:cap(l)])
	}
	for tick := range 60 {
		f.Tick(tick)
	}
	f.tells(t, 60, told(1, said(60, "\x00\x00\x00")), posted(1, closed(60, 0, 1, 1), closed(60, 1, 1, 2), closed(60, 2, 1, 3)))
	w.numbers(t, 1, 3, 3, 0, 3, false)
}

func TestExample(t *testing.T) {
	w := of(t, tables())
	w.asks(3, 0, say(0, 1))
	w.quiet(t, 0, 29)
	w.tells(t, 29, told(3, said(29, "\x00")))
	w.quiet(t, 30, 64)
	w.tells(t, 64, posted(3, closed(64, 0, 1, 1)))
}
