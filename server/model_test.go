package server_test

import (
	"slices"
	"testing"

	"campanile/api"
	"campanile/conf"
	"campanile/desc"
	"campanile/frame"
	"campanile/mem"
	"campanile/serve"
	"campanile/server"
)

// request is a descriptor that was taken and not posted.
type request struct {
	k         int
	x         api.Desc
	bad, over bool
	status, n int
}

// client is what the document's words say that the server has for one client, and nothing of another one.
type client struct {
	row         api.Client
	list        []request // in order; those that are over first
	taken, done int
	used        int
	now, frame  int // units used in the frame, and which one that is
	busy        bool
}

// plain is a server as the document's words tell it.
type plain struct {
	c       api.Config
	m       *mem.Memory
	d       *serve.Devices
	clients []*client
}

func plainly(t *testing.T, c api.Config) *plain {
	t.Helper()
	p := &plain{c: c, m: mem.New(api.Physical)}
	p.d, _ = serve.New(c, p.m)
	for _, row := range c.Clients {
		p.clients = append(p.clients, &client{row: row})
	}
	return p
}

func (p *plain) fork() *plain {
	f := &plain{c: p.c, m: p.m.Fork()}
	f.d = p.d.Fork(f.m)
	for _, x := range p.clients {
		y := *x
		y.list = slices.Clone(x.list)
		f.clients = append(f.clients, &y)
	}
	return f
}

// settle: the wrong ones at the front are over; the answer is the first one that waits, if there is any.
func (x *client) settle() *request {
	for i := range x.list {
		r := &x.list[i]
		if !r.over && !r.bad {
			return r
		}
		if !r.over {
			r.over, r.status, r.n = true, 2, 0
		}
	}
	return nil
}

func (x *client) backlog() int {
	n := 0
	for _, r := range x.list {
		if !r.over && !r.bad {
			n++
		}
	}
	return n
}

func (p *plain) tick(tick int) []server.Act {
	var out []server.Act
	at := tick % p.c.Frame
	for _, s := range p.c.Slots {
		if at >= s.From && at < s.From+(s.To-s.From)/4*4 {
			out = append(out, p.unit(tick, s.Owner, (at-s.From)%4)...)
		}
	}
	for _, w := range p.c.Windows {
		for i := range p.clients {
			if w.Owner == 0 && at == w.From+2*i {
				out = append(out, p.post(tick, i+1)...)
			}
			if w.Owner == 0 && at == w.From+2*i+1 {
				p.collect(i + 1)
			}
		}
	}
	return out
}

func (p *plain) unit(tick, owner, phase int) []server.Act {
	x := p.clients[owner-1]
	if x.frame != tick/p.c.Frame {
		x.frame, x.now = tick/p.c.Frame, 0
	}
	r := x.settle()
	switch {
	case phase == 0 && r != nil && x.now < x.row.Quota:
		x.now, x.used, x.busy = x.now+1, x.used+1, true
		p.d.Start(tick, owner, r.x)
	case phase == 3 && x.busy:
		var l []api.Mark
		r.status, r.n, l = p.d.End(tick, owner, r.x)
		r.over, x.busy = true, false
		if len(l) > 0 {
			return []server.Act{{Owner: owner, Marks: l}}
		}
	}
	return nil
}

func (p *plain) post(tick, owner int) []server.Act {
	x := p.clients[owner-1]
	x.settle()
	a := server.Act{Owner: owner, Bits: 1}
	ring := x.row.Base + x.row.At
	for len(x.list) > 0 && x.list[0].over {
		r := x.list[0]
		x.list, x.done = x.list[1:], x.done+1
		p.m.Set(ring+2+8*(r.k%x.row.Ring)+1, r.status)
		p.m.Set2(ring+2+8*(r.k%x.row.Ring)+4, r.n)
		p.m.Set(ring+1, x.done%256)
		a.Marks = append(a.Marks, api.Mark{Tick: tick, Sort: api.Posted, A: r.k, B: r.status, N: r.n})
	}
	if len(a.Marks) == 0 {
		return nil
	}
	return []server.Act{a}
}

func (p *plain) collect(owner int) {
	x := p.clients[owner-1]
	ring := x.row.Base + x.row.At
	put, _ := p.m.Get(ring)
	n := min(leaves(put-x.taken, 256), x.row.Ring-(x.taken-x.done))
	for range n {
		s, _ := p.m.Text(ring+2+8*(x.taken%x.row.Ring), 8)
		d := api.Desc{What: api.What(s[0]), Status: s[1], Addr: int(s[2]) + 256*int(s[3]), Len: int(s[4]) + 256*int(s[5]), Arg: int(s[6]) + 256*int(s[7])}
		x.list = append(x.list, request{k: x.taken, x: d, bad: desc.Check(d, x.row) != api.OK})
		x.taken++
	}
}

// drawnTables are tables that are right, of so many clients at least.
func drawnTables(d *dice, least int) api.Config {
	for {
		n := least + d.below(api.MaxClients+1-least)
		c := api.Config{Frame: 15 + 12*n + d.below(40)}
		order := []int{0}
		for owner := 1; owner <= n; owner++ {
			order = slices.Insert(order, d.below(len(order)+1), owner)
		}
		at := d.below(3)
		for _, owner := range order {
			width := 1 + d.below(9)
			if owner == 0 {
				width += 2 * n
			}
			c.Windows = append(c.Windows, api.Window{Owner: owner, From: at, To: at + width})
			at += width + d.below(2)
		}
		for at := d.below(5); at+4 <= c.Frame; {
			to := min(at+4+d.below(10), c.Frame)
			owner := 1 + d.below(n)
			if len(c.Slots) < n { // each one has a slot at least
				owner = 1 + (len(c.Slots)+n/2)%n
			}
			c.Slots = append(c.Slots, api.Slot{Owner: owner, From: at, To: to})
			at = to + d.below(3)
		}
		for i := range n {
			ring := 1 << d.below(5)
			size := max(32, 2+8*ring) + d.below(60)
			c.Clients = append(c.Clients, api.Client{Base: 128 + 300*i, Size: size, Ring: ring, At: d.below(size - 8*ring - 1), Quota: 1 + d.below(3),
				Queue: d.below(4), Mac: 3 * i, Channel: 2 * i, First: 4 * i, Sectors: d.below(5)})
		}
		if conf.Check(c) {
			return c
		}
	}
}

// drawnDesc is a descriptor that a client may ask for, or nearly so.
func drawnDesc(d *dice, row api.Client) api.Desc {
	x := api.Desc{What: api.What(1 + d.below(6)), Status: uint8(d.below(3)), Addr: d.below(row.Size + 4), Len: d.below(20), Arg: d.below(4)}
	if x.What == api.Load || x.What == api.Store {
		x.Addr, x.Len = d.below(row.Size), 16*(1+d.below(2))
	}
	if d.below(12) == 0 {
		x.What = api.What(d.below(10))
	}
	return x
}

// deed is bytes that a client writes.
type deed struct {
	at   int
	text string
}

// deeds are what a client does at a tick: now and then it puts descriptors, or writes anything.
func deeds(d *dice, row api.Client, taken, done int) []deed {
	var out []deed
	if d.below(4) == 0 {
		n := d.below(row.Ring + 1)
		for i := range n {
			s, _ := desc.Print(drawnDesc(d, row))
			out = append(out, deed{row.Base + row.At + 2 + 8*((taken+i)%row.Ring), s})
		}
		out = append(out, deed{row.Base + row.At, string([]byte{byte(taken + n)})})
	}
	switch d.below(60) {
	case 0:
		out = append(out, deed{row.Base + row.At, d.text(1)})
	case 1:
		out = append(out, deed{row.Base + d.below(row.Size-8), d.text(8)})
	case 2:
		out = append(out, deed{row.Base + row.At, string([]byte{byte(done)})})
	}
	return out
}

// drawnEvent is something that comes for a client of a row.
func drawnEvent(d *dice, row api.Client) api.Event {
	if d.below(2) == 0 {
		return api.Event{Kind: api.Byte, Channel: row.Channel, Byte: d.below(256)}
	}
	s, _ := frame.Print(frame.Frame{To: row.Mac, From: d.below(256), Data: d.text(d.below(20))})
	return api.Event{Kind: api.Packet, Data: s}
}

// pair is a server, and the plain one that it should be.
type pair struct {
	w    *whole
	p    *plain
	tick int
}

func (x *pair) fork() *pair {
	return &pair{x.w.fork(), x.p.fork(), x.tick}
}

// step lets the clients do something, something come, and a tick be done, the same for both.
func (x *pair) step(t *testing.T, d *dice, count map[api.Sort]int) {
	t.Helper()
	for _, c := range x.p.clients {
		for _, y := range deeds(d, c.row, c.taken, c.done) {
			x.w.m.Put(y.at, y.text)
			x.p.m.Put(y.at, y.text)
		}
		if d.below(9) == 0 {
			e := drawnEvent(d, c.row)
			x.w.d.Come(x.tick, e)
			x.p.d.Come(x.tick, e)
		}
	}
	got, want := x.w.Tick(x.tick), x.p.tick(x.tick)
	if !same(got, want) {
		t.Fatal(x.w.c, x.tick, got, "not", want)
	}
	for _, a := range got {
		for _, k := range a.Marks {
			count[k.Sort]++
		}
	}
	if l := mem.Diff(x.w.m, x.p.m); len(l) != 0 {
		t.Fatal(x.w.c, x.tick, l)
	}
	x.numbers(t)
	x.tick++
}

// numbers holds what is told of all owners against the plain ones. P30.4: what is taken, and not completed, has its
// place in the ring, and no more units are used than the quota.
func (x *pair) numbers(t *testing.T) {
	t.Helper()
	for i, c := range x.p.clients {
		x.w.numbers(t, i+1, c.taken, c.done, c.backlog(), c.used, c.busy)
		if c.taken-c.done > c.row.Ring || c.now > c.row.Quota {
			t.Fatal(i+1, c.taken, c.done, c.now)
		}
	}
	x.w.numbers(t, 0, 0, 0, 0, 0, false)
	x.w.numbers(t, len(x.p.clients)+1, 0, 0, 0, 0, false)
}

// P30.1, P30.2, P30.4, P4: any tables, clients and events, with forks that go their own ways.
func TestAgainstPlain(t *testing.T) {
	d := dice(30)
	count := map[api.Sort]int{}
	for range 60 {
		c := drawnTables(&d, 1)
		pairs := []*pair{{w: of(t, c), p: plainly(t, c)}}
		for range 2500 {
			x := pairs[d.below(len(pairs))]
			x.step(t, &d, count)
			if d.below(900) == 0 {
				pairs = append(pairs, x.fork())
			}
		}
		for _, x := range pairs {
			x.numbers(t)
			if l := mem.Diff(x.w.m, x.p.m); len(l) != 0 {
				t.Fatal(l)
			}
		}
	}
	for _, s := range []api.Sort{api.Posted, api.Said, api.Sent, api.Stored} {
		if count[s] < 100 {
			t.Fatal("too few", s, count[s])
		}
	}
}

// private are tables of one client alone, with its own window, slots and duties where they are.
func private(c api.Config, owner int) api.Config {
	out := api.Config{Frame: c.Frame, Clients: []api.Client{c.Clients[owner-1]}}
	for _, w := range c.Windows {
		switch w.Owner {
		case 0:
			from := w.From + 2*(owner-1)
			out.Windows = append(out.Windows, api.Window{From: from, To: from + 2})
		case owner:
			out.Windows = append(out.Windows, api.Window{Owner: 1, From: w.From, To: w.To})
		}
	}
	for _, s := range c.Slots {
		if s.Owner == owner {
			out.Slots = append(out.Slots, api.Slot{Owner: 1, From: s.From, To: s.To})
		}
	}
	return out
}

// P30.3: what is told for a client, and written into its memory, is what it would be if it were alone, whatever the others
// ask for, and whatever comes for them.
func TestOthersPlayNoPart(t *testing.T) {
	d := dice(31)
	posts := 0
	for range 40 {
		c := drawnTables(&d, 2)
		owner := 1 + d.below(len(c.Clients))
		row := c.Clients[owner-1]
		together, alone := of(t, c), of(t, private(c, owner))
		for tick := range 1500 {
			for i, r := range c.Clients {
				for _, y := range deeds(&d, r, together.Taken(i+1), together.Done(i+1)) {
					together.m.Put(y.at, y.text)
					if i+1 == owner {
						alone.m.Put(y.at, y.text)
					}
				}
				if d.below(9) == 0 {
					e := drawnEvent(&d, r)
					together.d.Come(tick, e)
					if i+1 == owner {
						alone.d.Come(tick, e)
					}
				}
			}
			var mine []server.Act
			for _, a := range together.Tick(tick) {
				if a.Owner == owner {
					a.Owner = 1
					mine = append(mine, a)
				}
			}
			if want := alone.Tick(tick); !same(mine, want) {
				t.Fatal(c, owner, tick, mine, "not", want)
			}
			a, _ := together.m.Text(row.Base, row.Size)
			b, _ := alone.m.Text(row.Base, row.Size)
			if a != b {
				t.Fatal(c, owner, tick, "memory")
			}
			together.numbers(t, owner, alone.Taken(1), alone.Done(1), alone.Backlog(1), alone.Used(1), alone.Busy(1))
		}
		posts += alone.Done(1)
	}
	if posts < 1000 {
		t.Fatal("too few", posts)
	}
}
