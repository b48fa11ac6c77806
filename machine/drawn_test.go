package machine_test

import (
	"math"
	"slices"
	"testing"

	"campanile/api"
	"campanile/code"
	"campanile/conf"
	"campanile/desc"
	"campanile/frame"
	"campanile/image"
	"campanile/machine"
	"campanile/tone"
)

// dice are numbers that come the same each time.
type dice uint32

// below is a number from 0 on, below n.
func (d *dice) below(n int) int {
	*d = *d*1664525 + 1013904223
	return int(uint32(*d)>>8) % n
}

// text is n drawn bytes.
func (d *dice) text(n int) string {
	out := make([]byte, n)
	for i := range out {
		out[i] = byte(d.below(256))
	}
	return string(out)
}

// printed is some tables' image.
func printed(t *testing.T, c api.Config) string {
	t.Helper()
	img, e := image.Print(c)
	if e != api.OK {
		t.Fatal(e, c)
	}
	return img
}

// booted is a machine of some tables.
func booted(t *testing.T, c api.Config, programs ...string) *machine.Machine {
	t.Helper()
	x, wrong, e := machine.Boot(printed(t, c), programs)
	if e != api.OK || len(wrong) != 0 || x == nil {
		t.Fatal(wrong, e, c)
	}
	return x
}

// drawnTables are tables that are right, of so many clients.
func drawnTables(d *dice, n int) api.Config {
	for {
		c := api.Config{Frame: 15 + 14*n + d.below(40), Windows: drawnWindows(d, n), Clients: drawnClients(d, n)}
		for at := d.below(5); at+api.Unit <= c.Frame; {
			to := min(at+api.Unit+d.below(10), c.Frame)
			owner := 1 + d.below(n)
			if len(c.Slots) < n { // each one has a slot at least
				owner = 1 + (len(c.Slots)+n/2)%n
			}
			c.Slots = append(c.Slots, api.Slot{Owner: owner, From: at, To: to})
			at = to + d.below(3)
		}
		if conf.Check(c) {
			return c
		}
	}
}

// drawnWindows are those of n clients, and the I/O partition's, in any order.
func drawnWindows(d *dice, n int) []api.Window {
	order := []int{0}
	for owner := 1; owner <= n; owner++ {
		order = slices.Insert(order, d.below(len(order)+1), owner)
	}
	var out []api.Window
	at := d.below(3)
	for _, owner := range order {
		width := 1 + d.below(12)
		if owner == 0 {
			width += 2 * n
		}
		w := api.Window{Owner: owner, From: at, To: at + width}
		out = slices.Insert(out, d.below(len(out)+1), w) // rows stand in any order
		at += width + d.below(2)
	}
	return out
}

// drawnClients are rows of n clients, that touch each other now and then, with a ring anywhere.
func drawnClients(d *dice, n int) []api.Client {
	var out []api.Client
	base, first := api.System, d.below(9)
	for i := range n {
		ring := 1 << d.below(5)
		width := conf.Ring(ring)
		size := max(api.MinSize, width) + d.below(300)
		at := size - width - d.below(min(9, size-width+1))
		if d.below(5) == 0 {
			at = d.below(size - width + 1)
		}
		sectors := d.below(5)
		out = append(out, api.Client{Base: base, Size: size, Ring: ring, At: at, Quota: 1 + d.below(3),
			Queue: d.below(4), Mac: 3 * i, Channel: 2 * i, First: first, Sectors: sectors})
		base, first = base+size+d.below(2), first+sectors+d.below(2)
	}
	return out
}

// drawnDesc is a descriptor that a client may ask for, or nearly so.
func drawnDesc(d *dice, row api.Client) api.Desc {
	x := api.Desc{What: api.What(1 + d.below(6)), Status: uint8(d.below(3)), Addr: d.below(row.Size + 2), Len: d.below(20), Arg: d.below(4)}
	if x.What == api.Load || x.What == api.Store {
		x.Addr, x.Len = d.below(row.Size), api.Sector*(1+d.below(2))
	}
	if d.below(12) == 0 {
		x.What = api.What(d.below(10))
	}
	return x
}

// maker puts instructions one behind the other.
type maker struct{ program []byte }

func (m *maker) put(c api.Code, x, n int) {
	s, _ := code.Put(api.Instr{Code: c, X: x, N: n})
	m.program = append(m.program, s...)
}

// drawnProgram is one that asks for something again and again, and does this and that between; or any bytes.
func drawnProgram(d *dice, row api.Client) string {
	if d.below(8) == 0 {
		return d.text(d.below(row.Size + 1))
	}
	var m maker
	first := d.below(row.Ring + 1) // that many stand in the program itself
	m.put(api.Set, 5, first)
	m.put(api.Set, 7, row.At)
	again := len(m.program)
	for range d.below(4) {
		m.write(d, row)
	}
	for range d.below(5) {
		m.anything(d, row)
	}
	m.put(api.Set, 4, 1+d.below(3))
	m.put(api.Add, 5, 4)
	m.put(api.Write, 5, 7)
	for range 1 + d.below(2) {
		m.put(api.Rest, 0, 0)
	}
	m.put(api.Call, 3, api.CallBits)
	m.put(api.Jump, 0, again)
	out := make([]byte, row.Size)
	out[row.At] = byte(first)
	for i := range row.Ring {
		s, _ := desc.Print(drawnDesc(d, row))
		copy(out[row.At+2+8*i:], s)
	}
	copy(out, m.program)
	return string(out)
}

// write puts a descriptor into the ring, or some of its words alone.
func (m *maker) write(d *dice, row api.Client) {
	s, _ := desc.Print(drawnDesc(d, row))
	at := row.At + 2 + 8*d.below(row.Ring)
	for i := 0; i < len(s); i += 2 {
		if d.below(8) == 0 {
			continue
		}
		m.put(api.Set, 1, at+i)
		m.put(api.Set, 2, int(s[i])+256*int(s[i+1]))
		m.put(api.Write2, 2, 1)
	}
}

// anything is some instructions that do no great harm, and now and then one that may.
func (m *maker) anything(d *dice, row api.Client) {
	switch d.below(8) {
	case 0:
		m.put(api.Set, 1, d.below(row.Size))
		m.put(api.Read, d.below(3), 1)
	case 1:
		m.put(api.Set, 1, row.Size-1-d.below(min(row.Size, 40)))
		m.put(api.Write, d.below(8), 1)
	case 2:
		m.put(api.Code(1+d.below(6)), d.below(3), d.below(8))
	case 3:
		m.put(api.Set, 1, d.below(row.Size+2))
		m.put(api.Read2, 2, 1)
	default:
		m.put(api.Call, 3, 1+d.below(6))
	}
}

// drawnPrograms are those of all clients of some tables.
func drawnPrograms(d *dice, c api.Config) []string {
	var out []string
	for _, row := range c.Clients {
		out = append(out, drawnProgram(d, row))
	}
	return out
}

// drawnEvent is something that comes, mostly for one of the clients.
func drawnEvent(d *dice, c api.Config) api.Event {
	row := c.Clients[d.below(len(c.Clients))]
	channel, mac := row.Channel, row.Mac
	if d.below(12) == 0 {
		channel, mac = d.below(300)-20, d.below(256)
	}
	switch d.below(8) {
	case 0:
		return api.Event{Kind: api.Packet, Data: d.text(d.below(40))}
	case 1:
		return api.Event{Kind: api.Tone, Channel: channel, Tones: [4]complex128{complex(math.NaN(), 0), 1, 1i, complex(0, math.Inf(-1))}}
	case 2:
		return api.Event{Kind: api.Kind(d.below(6)), Channel: channel, Byte: d.below(1000) - 300, Data: "x"}
	case 3, 4:
		return api.Event{Kind: api.Tone, Channel: channel, Tones: tone.Tones(d.below(256))}
	case 5:
		return api.Event{Kind: api.Byte, Channel: channel, Byte: d.below(256)}
	}
	s, _ := frame.Print(frame.Frame{To: mac, From: d.below(256), Data: d.text(d.below(20))})
	return api.Event{Kind: api.Packet, Data: s}
}

// drawnEvents are those of a tick.
func drawnEvents(d *dice, c api.Config) []api.Event {
	var out []api.Event
	for d.below(7) == 0 {
		out = append(out, drawnEvent(d, c))
	}
	return out
}

// drawnTicks are those of a script.
func drawnTicks(d *dice, c api.Config, n int) [][]api.Event {
	out := make([][]api.Event, n)
	for i := range out {
		out[i] = drawnEvents(d, c)
	}
	return out
}

// addressed: is an event for the client of a row?
func addressed(row api.Client, e api.Event) bool {
	switch e.Kind {
	case api.Byte, api.Tone:
		return e.Channel == row.Channel
	case api.Packet:
		return frame.For(e.Data, row.Mac)
	}
	return false
}

// mine are those of some events that are for the client of a row.
func mine(row api.Client, l []api.Event) []api.Event {
	var out []api.Event
	for _, e := range l {
		if addressed(row, e) {
			out = append(out, e)
		}
	}
	return out
}

// private are tables of one client alone, with its own window, slots and duties where they are.
func private(c api.Config, owner int) api.Config {
	out := api.Config{Frame: c.Frame, Clients: []api.Client{c.Clients[owner-1]}}
	for _, w := range c.Windows {
		switch w.Owner {
		case 0:
			from := w.From + 2*(owner-1)
			out.Windows = append(out.Windows, api.Window{From: from, To: from + 2})
		case owner:
			out.Windows = append(out.Windows, api.Window{Owner: 1, From: w.From, To: w.To})
		}
	}
	for _, s := range c.Slots {
		if s.Owner == owner {
			out.Slots = append(out.Slots, api.Slot{Owner: 1, From: s.From, To: s.To})
		}
	}
	return out
}
