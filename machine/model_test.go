package machine_test

import (
	"slices"
	"testing"

	"campanile/api"
	"campanile/cpu"
	"campanile/machine"
	"campanile/mem"
	"campanile/plan"
	"campanile/serve"
	"campanile/server"
)

// plain is a machine as the document's words tell it. The I/O partition, its devices and the instructions are those of
// their layers; windows, interrupts, hypercalls and marks are told here once more.
type plain struct {
	c                  api.Config
	m                  *mem.Memory
	d                  *serve.Devices
	s                  *server.Server
	tick               int
	latched, delivered [9]int
	states             [9]cpu.State
	traces             [9][]api.Mark
}

func plainly(c api.Config, programs []string) *plain {
	p := &plain{c: c, m: mem.New(api.Physical)}
	p.d, _ = serve.New(c, p.m)
	due, _ := plan.New(c)
	p.s = server.New(due, p.m, p.d)
	for i, s := range programs {
		p.m.Put(c.Clients[i].Base, s)
	}
	return p
}

func (p *plain) fork() *plain {
	f := *p
	f.m = p.m.Fork()
	f.d = p.d.Fork(f.m)
	f.s = p.s.Fork(f.m, f.d)
	for i, l := range p.traces {
		f.traces[i] = slices.Clone(l)
	}
	return &f
}

func (p *plain) view(owner int) cpu.View {
	row := p.c.Clients[owner-1]
	return cpu.View{M: p.m, Base: row.Base, Size: row.Size}
}

func (p *plain) mark(owner int, m api.Mark) {
	m.Tick = p.tick
	p.traces[owner] = append(p.traces[owner], m)
}

func (p *plain) step(l []api.Event) {
	for _, e := range l {
		owner, bit, marks := p.d.Come(p.tick, e)
		p.latched[owner] |= bit
		p.traces[owner] = append(p.traces[owner], marks...)
	}
	at := p.tick % p.c.Frame
	for _, w := range p.c.Windows {
		if w.Owner > 0 && at == w.From {
			p.begin(w.Owner)
		}
	}
	for _, a := range p.s.Tick(p.tick) {
		p.latched[a.Owner] |= a.Bits
		p.traces[a.Owner] = append(p.traces[a.Owner], a.Marks...)
	}
	for _, w := range p.c.Windows {
		if w.Owner > 0 && at >= w.From && at < w.To {
			p.run(w.Owner)
		}
	}
	p.tick++
}

func (p *plain) begin(o int) {
	p.mark(o, api.Mark{Sort: api.Memory, Data: cpu.Text(p.view(o))})
	if p.latched[o] != 0 {
		p.mark(o, api.Mark{Sort: api.Waked, A: p.latched[o]})
	}
	p.delivered[o] |= p.latched[o]
	p.latched[o] = 0
	if p.states[o].Mode == cpu.Rests {
		p.states[o].Mode = cpu.Runs
	}
}

func (p *plain) run(o int) {
	var out cpu.Out
	p.states[o], out = cpu.Step(p.view(o), p.states[o])
	switch out.What {
	case cpu.Stops, cpu.Breaks:
		p.mark(o, api.Mark{Sort: api.Halted, A: int(out.Err)})
	case cpu.Called:
		n := 65535
		if out.N >= 1 && out.N <= 5 {
			n = [6]int{0, p.tick, p.s.Done(o), p.d.Drops(o), p.delivered[o], p.tick / p.c.Frame}[out.N] % 65536
		}
		if out.N == 4 {
			p.delivered[o] = 0
		}
		p.states[o].R[out.X] = n
		p.mark(o, api.Mark{Sort: api.Called, A: out.N, B: n})
	}
}

// pair is a machine, and the plain one that it should be.
type pair struct {
	x *machine.Machine
	p *plain
}

func (y *pair) step(t *testing.T, l []api.Event) {
	t.Helper()
	y.p.step(l)
	if e := y.x.Step(l); e != api.OK || y.x.Tick() != y.p.tick {
		t.Fatal(e, y.x.Tick(), y.p.tick)
	}
	for i := range y.p.c.Clients {
		owner := i + 1
		want := machine.Counts{Taken: y.p.s.Taken(owner), Done: y.p.s.Done(owner), Backlog: y.p.s.Backlog(owner), Used: y.p.s.Used(owner), Drops: y.p.d.Drops(owner)}
		if y.x.State(owner) != y.p.states[owner] || y.x.Text(owner) != cpu.Text(y.p.view(owner)) || y.x.Counts(owner) != want {
			t.Fatal(y.p.c, y.p.tick, owner, y.x.State(owner), y.p.states[owner], y.x.Counts(owner), want)
		}
	}
}

// traces holds the traces, and all memory, against the plain ones.
func (y *pair) traces(t *testing.T) {
	t.Helper()
	for i := range y.p.c.Clients {
		if got, want := y.x.Trace(i+1), y.p.traces[i+1]; !slices.Equal(got, want) {
			t.Fatal(y.p.c, y.p.tick, i+1, got, "not", want)
		}
	}
	if l := mem.Diff(y.x.Memory(), y.p.m); len(l) != 0 {
		t.Fatal(y.p.c, y.p.tick, l)
	}
}

// enough asks whether marks of all sorts were told, so that what is held against each other is worth it.
func enough(t *testing.T, count map[api.Sort]int, least int) {
	t.Helper()
	for s := api.Memory; s <= api.Stored; s++ {
		if count[s] < least {
			t.Fatal("too few of", s, count)
		}
	}
}

// P31.1, P31.2, P31.3, P4, T4: any tables, programs and events, with forks that go their own ways.
func TestAgainstPlain(t *testing.T) {
	d := dice(31)
	count := map[api.Sort]int{}
	for i := range 64 {
		c := drawnTables(&d, 1+i%api.MaxClients)
		programs := drawnPrograms(&d, c)
		pairs := []*pair{{booted(t, c, programs...), plainly(c, programs)}}
		for n := range 3000 {
			y := pairs[d.below(len(pairs))]
			y.step(t, drawnEvents(&d, c))
			if d.below(1200) == 0 {
				pairs = append(pairs, &pair{y.x.Fork(), y.p.fork()})
			}
			if n%200 == 0 {
				y.traces(t)
			}
		}
		for _, y := range pairs {
			y.traces(t)
			for i := range c.Clients {
				for _, m := range y.x.Trace(i + 1) {
					count[m.Sort]++
				}
			}
		}
	}
	enough(t, count, 100)
}
