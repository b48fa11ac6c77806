package serve_test

import (
	"slices"
	"testing"

	"campanile/api"
	"campanile/desc"
	"campanile/frame"
	"campanile/mem"
	"campanile/serve"
	"campanile/tone"
)

// client is what one client has, as the document's words tell it; nothing of it is another one's.
type client struct {
	owner   int
	row     api.Client
	memory  string
	bytes   string
	frames  []string
	sectors []string
	drops   int
}

func (c client) fork() *client {
	c.frames, c.sectors = slices.Clone(c.frames), slices.Clone(c.sectors)
	return &c
}

// put is bytes that go to the memory.
func (c *client) put(addr int, s string) {
	c.memory = c.memory[:addr] + s + c.memory[addr+len(s):]
}

// unit is a whole unit for a descriptor that may be asked for: its length, and its marks.
func (c *client) unit(end int, x api.Desc) (int, []api.Mark) {
	data := c.memory[x.Addr : x.Addr+x.Len]
	switch x.What {
	case api.Say:
		return x.Len, []api.Mark{{Tick: end, Sort: api.Said, Data: data}}
	case api.Send:
		return x.Len, []api.Mark{{Tick: end, Sort: api.Sent, Data: text(x.Arg, c.row.Mac, data)}}
	case api.Hear:
		n := min(x.Len, len(c.bytes))
		c.put(x.Addr, c.bytes[:n])
		c.bytes = c.bytes[n:]
		return n, nil
	case api.Take:
		if len(c.frames) == 0 {
			return 0, nil
		}
		n := min(x.Len, len(c.frames[0]))
		c.put(x.Addr, c.frames[0][:n])
		c.frames = c.frames[1:]
		return n, nil
	case api.Load:
		for i := range x.Len / api.Sector {
			c.put(x.Addr+i*api.Sector, c.sectors[x.Arg+i])
		}
		return x.Len, nil
	}
	var l []api.Mark
	for i := range x.Len / api.Sector {
		s := data[i*api.Sector:][:api.Sector]
		c.sectors[x.Arg+i] = s
		l = append(l, api.Mark{Tick: end, Sort: api.Stored, A: x.Arg + i, Data: s})
	}
	return x.Len, l
}

// come is something that comes for the client: the bit, and the marks.
func (c *client) come(tick int, e api.Event) (int, []api.Mark) {
	if e.Kind == api.Packet {
		if len(c.frames) == c.row.Queue {
			c.drops++
			return 0, []api.Mark{dropped(tick, 2)}
		}
		f, _ := frame.Parse(e.Data)
		c.frames = append(c.frames, f.Data)
		return api.Came, nil
	}
	b := e.Byte
	if e.Kind == api.Tone {
		var no api.Errno
		if b, no = tone.Byte(e.Tones); no != api.OK {
			return 0, nil
		}
	}
	if len(c.bytes) == c.row.Queue {
		c.drops++
		return 0, []api.Mark{dropped(tick, 1)}
	}
	c.bytes += string([]byte{byte(b)})
	return api.Heard, nil
}

// pair is devices with their memory, and the clients that they should be.
type pair struct {
	d       *serve.Devices
	m       *mem.Memory
	kernel  string
	clients []*client
}

// same holds all that can be told of devices against the clients.
func (p *pair) same(t *testing.T) {
	t.Helper()
	if s, _ := p.m.Text(0, api.System); s != p.kernel {
		t.Fatal("the kernel's memory")
	}
	for _, c := range p.clients {
		if s, _ := p.m.Text(c.row.Base, c.row.Size); s != c.memory {
			t.Fatalf("%d: %q, not %q", c.owner, s, c.memory)
		}
		if p.d.Drops(c.owner) != c.drops {
			t.Fatal(c.owner, p.d.Drops(c.owner), c.drops)
		}
		for i, s := range c.sectors {
			sector(t, p.d, c.owner, i, s)
		}
	}
}

// waits holds all that waits against the clients.
func (p *pair) waits(t *testing.T) {
	t.Helper()
	m := mem.New(api.Physical)
	f := p.d.Fork(m)
	for _, c := range p.clients {
		ends(t, f, 0, c.owner, ask(api.Hear, 0, api.Burst, 0), len(c.bytes))
		if s, _ := m.Text(c.row.Base, len(c.bytes)); s != c.bytes {
			t.Fatalf("%d: %q, not %q", c.owner, s, c.bytes)
		}
		for _, want := range c.frames {
			ends(t, f, 0, c.owner, ask(api.Take, 0, api.Burst, 0), len(want))
			if s, _ := m.Text(c.row.Base, len(want)); s != want {
				t.Fatalf("%d: %q, not %q", c.owner, s, want)
			}
		}
		ends(t, f, 0, c.owner, ask(api.Take, 0, api.Burst, 0), 0)
	}
}

func (p *pair) fork() *pair {
	f := &pair{m: p.m.Fork(), kernel: p.kernel}
	f.d = p.d.Fork(f.m)
	for _, c := range p.clients {
		f.clients = append(f.clients, c.fork())
	}
	return f
}

// drawn is some event, and whose it is, told by the rows alone.
func drawn(d *dice, p *pair) (api.Event, *client) {
	at := d.below(len(p.clients) + 1)
	var c *client
	mac, channel := 100, 101
	if at < len(p.clients) {
		c = p.clients[at]
		mac, channel = c.row.Mac, c.row.Channel
	}
	switch d.below(4) {
	case 0:
		return byteOn(channel, d.below(1000)-300), c
	case 1:
		e := toneOn(channel, d.below(256))
		if d.below(3) == 0 {
			e.Tones[d.below(4)] = 0
		}
		return e, c
	case 2:
		return letter(mac, d.below(256), d.text(d.below(api.Burst+1))), c
	}
	s := text(mac, 1, d.text(5))
	return api.Event{Kind: api.Packet, Data: s[:9] + string([]byte{s[9] ^ 1})}, nil // its check is not right
}

// right is a descriptor that the client may ask for.
func right(d *dice, c *client) api.Desc {
	for {
		x := api.Desc{What: kinds[d.below(len(kinds))], Status: uint8(d.below(3)), Addr: d.below(c.row.Size + 1), Len: d.below(api.Burst + 1), Arg: d.below(256)}
		if x.What == api.Load || x.What == api.Store {
			x.Len, x.Arg = api.Sector*(1+d.below(2)), d.below(c.row.Sectors+1)
		}
		if desc.Check(x, c.row) == api.OK {
			return x
		}
	}
}

// P28.1, P28.2, P28.3: any units and events of any clients, each of which is held against what that client alone has;
// with forks that go their own ways.
func TestAgainstPlain(t *testing.T) {
	dice := dice(28)
	done := map[api.What]int{}
	for range 20 {
		d, m := devices(t)
		first := &pair{d: d, m: m}
		first.kernel, _ = m.Text(0, api.System)
		for i, row := range tables().Clients {
			s, _ := m.Text(row.Base, row.Size)
			first.clients = append(first.clients, &client{owner: i + 1, row: row, memory: s, sectors: slices.Repeat([]string{zeroes}, row.Sectors)})
		}
		pairs := []*pair{first}
		for tick := 0; tick < 1600; tick += 4 {
			p := pairs[dice.below(len(pairs))]
			c := p.clients[dice.below(len(p.clients))]
			x := right(&dice, c)
			starts(t, p.d, tick, c.owner, x)
			comeSome(t, &dice, p, tick)
			n, l := c.unit(tick+3, x)
			ends(t, p.d, tick+3, c.owner, x, n, l...)
			done[x.What]++
			if dice.below(100) == 0 {
				pairs = append(pairs, p.fork())
			}
			p.same(t)
			if tick%80 == 0 {
				for _, p := range pairs {
					p.same(t)
					p.waits(t)
				}
			}
		}
		for _, p := range pairs {
			if len(p.d.Records()) != 0 {
				t.Fatal(p.d.Records())
			}
		}
	}
	for _, w := range kinds {
		if done[w] < 300 {
			t.Fatal("too few", w, done[w])
		}
	}
}

// comeSome lets some events come, to both.
func comeSome(t *testing.T, d *dice, p *pair, tick int) {
	t.Helper()
	for range d.below(3) {
		e, c := drawn(d, p)
		if c == nil {
			comes(t, p.d, tick, e, 0, 0)
			continue
		}
		bit, l := c.come(tick, e)
		comes(t, p.d, tick, e, c.owner, bit, l...)
	}
}

// P28.3: what a client is told, and has, is the same whatever is done and comes for others beside it, also what has errors.
func TestOthersPlayNoPart(t *testing.T) {
	dice := dice(3)
	for run := range 40 {
		alone, mine := devices(t)
		together, ours := devices(t)
		row := tables().Clients[0]
		c := &client{owner: 1, row: row}
		for tick := 0; tick < 800; tick += 8 {
			x := right(&dice, c)
			starts(t, alone, tick, 1, x)
			starts(t, together, tick, 1, x)
			e, _ := drawn(&dice, &pair{clients: []*client{c}})
			o1, b1, l1 := alone.Come(tick, e)
			o2, b2, l2 := together.Come(tick, e)
			if o1 != o2 || b1 != b2 || !slices.Equal(l1, l2) {
				t.Fatal(run, tick, e, l1, l2)
			}
			disturb(&dice, together, tick)
			s1, n1, l1 := alone.End(tick+3, 1, x)
			s2, n2, l2 := together.End(tick+3, 1, x)
			if s1 != s2 || n1 != n2 || !slices.Equal(l1, l2) {
				t.Fatal(run, tick, x, s1, n1, l1, s2, n2, l2)
			}
			other := api.Desc{What: kinds[dice.below(6)], Addr: dice.below(80), Len: 16 * dice.below(3), Arg: dice.below(3)}
			if together.Start(tick+4, 3, other) == api.OK {
				together.End(tick+7, 3, other)
			}
			a, _ := mine.Text(row.Base, row.Size)
			b, _ := ours.Text(row.Base, row.Size)
			if a != b || alone.Drops(1) != together.Drops(1) {
				t.Fatal(run, tick, x, "memory")
			}
			for i := range row.Sectors {
				s, _ := alone.Sector(1, i)
				sector(t, together, 1, i, s)
			}
		}
	}
}

// disturb does things for others than the owner 1, while a unit of it goes on.
func disturb(d *dice, v *serve.Devices, tick int) {
	for range d.below(6) {
		owner := 2 + d.below(2)
		row := tables().Clients[owner-1]
		x := api.Desc{What: api.What(d.below(8)), Addr: d.below(110), Len: d.below(40), Arg: d.below(5)}
		switch d.below(4) {
		case 0:
			v.Come(tick, byteOn(row.Channel, d.below(256)))
		case 1:
			v.Come(tick, letter(row.Mac, 10, d.text(d.below(33))))
		case 2:
			v.Start(tick, owner, x) // the disk has a job already, or it is the owner 1's no Load and no Store
			v.End(tick+3, owner, x)
		case 3:
			v.End(tick+3, owner, x)
		}
	}
}
