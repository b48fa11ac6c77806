package machine_test

import (
	"slices"
	"strings"
	"testing"

	"campanile/api"
	"campanile/conf"
	"campanile/image"
	"campanile/machine"
	"campanile/mem"
)

// runs is a machine behind a script, which boots.
func runs(t *testing.T, c api.Config, programs []string, ticks [][]api.Event) *machine.Machine {
	t.Helper()
	x, _, e := machine.Run(api.Script{Image: printed(t, c), Programs: programs, Ticks: ticks})
	if e != api.OK || x.Tick() != len(ticks) {
		t.Fatal(e)
	}
	return x
}

// P31.4, T1: at each tick a client's trace, memory and state are those of a machine that has this client alone, with what
// is addressed to it.
func TestAlone(t *testing.T) {
	d := dice(314)
	count := map[api.Sort]int{}
	for i := range 42 {
		c := drawnTables(&d, 2+i%(api.MaxClients-1))
		programs := drawnPrograms(&d, c)
		together := booted(t, c, programs...)
		var alone []*machine.Machine
		for i := range c.Clients {
			alone = append(alone, booted(t, private(c, i+1), programs[i]))
		}
		for range 2500 {
			l := drawnEvents(&d, c)
			together.Step(l)
			for i, y := range alone {
				y.Step(mine(c.Clients[i], l))
				if together.Text(i+1) != y.Text(1) || together.State(i+1) != y.State(1) || together.Counts(i+1) != y.Counts(1) {
					t.Fatal(c, i+1, together.Tick(), together.State(i+1), y.State(1), together.Counts(i+1), y.Counts(1))
				}
			}
		}
		for i, y := range alone {
			got, want := together.Trace(i+1), y.Trace(1)
			if !slices.Equal(got, want) {
				t.Fatal(c, i+1, got, "not", want)
			}
			for _, m := range got {
				count[m.Sort]++
			}
		}
	}
	enough(t, count, 100)
}

// T1: in two scripts that agree for a client its trace is the same, whatever the others' programs are, and whatever comes
// for them.
func TestOthersPlayNoPart(t *testing.T) {
	d := dice(11)
	for i := range 40 {
		c := drawnTables(&d, 2+i%(api.MaxClients-1))
		owner := 1 + d.below(len(c.Clients))
		row := c.Clients[owner-1]
		here, there := drawnPrograms(&d, c), drawnPrograms(&d, c)
		there[owner-1] = here[owner-1]
		ticks := drawnTicks(&d, c, 2000)
		others := make([][]api.Event, len(ticks))
		for i, l := range ticks {
			others[i] = slices.DeleteFunc(drawnEvents(&d, c), func(e api.Event) bool { return addressed(row, e) })
			for _, e := range mine(row, l) {
				others[i] = slices.Insert(others[i], len(others[i]), e)
			}
		}
		a, b := runs(t, c, here, ticks), runs(t, c, there, others)
		if !slices.Equal(a.Trace(owner), b.Trace(owner)) || a.Text(owner) != b.Text(owner) || a.State(owner) != b.State(owner) || a.Counts(owner) != b.Counts(owner) {
			t.Fatal(c, owner, a.Trace(owner), b.Trace(owner))
		}
	}
}

// inside tells whether all of a span lies in n places from one on.
func inside(s api.Span, from, n int) bool { return s.From >= from && s.To <= from+n }

// may tells whether the places of a span may be changed at an offset: by their client's unit, window, or completion.
func may(c api.Config, s api.Span, at int) bool {
	i := slices.IndexFunc(c.Clients, func(row api.Client) bool { return inside(s, row.Base, row.Size) })
	if i < 0 {
		return false
	}
	for _, w := range c.Windows {
		ring := c.Clients[i].Base + c.Clients[i].At
		if w.Owner == i+1 && at >= w.From && at < w.To ||
			w.Owner == 0 && at == w.From+2*i && inside(s, ring, conf.Ring(c.Clients[i].Ring)) {
			return true
		}
	}
	for _, l := range c.Slots {
		if l.Owner == i+1 && at >= l.From && at < l.To && (at-l.From)%4 == 3 {
			return true
		}
	}
	return false
}

// T2: at every tick each byte that changes is in the memory of the client whose bus slot, window, or completion it is.
func TestMemoryIsTheClients(t *testing.T) {
	d := dice(22)
	changes := 0
	for i := range 32 {
		c := drawnTables(&d, 1+i%api.MaxClients)
		for i := 1; i < len(c.Clients); i++ { // apart, so that a span of what changes is one client's
			c.Clients[i].Base += 2 * i
		}
		x := booted(t, c, drawnPrograms(&d, c)...)
		was := x.Memory()
		for tick := range 1500 {
			x.Step(drawnEvents(&d, c))
			now := x.Memory()
			for _, s := range mem.Diff(was, now) {
				changes++
				if !may(c, s, tick%c.Frame) {
					t.Fatal(c, tick, s)
				}
			}
			was = now
		}
	}
	if changes < 2000 {
		t.Fatal("too few", changes)
	}
}

// taking is a descriptor that was taken and not completed.
type taking struct{ frame, ahead int }

// P31.4, T3: each descriptor is completed, in order, in so many frames as those ahead of it and the quota ask for; no client
// uses more than its quota in a frame; what had no room is counted.
func TestTime(t *testing.T) {
	d := dice(33)
	worst, done := 0, 0
	for i := range 40 {
		c := drawnTables(&d, 1+i%api.MaxClients)
		x := booted(t, c, drawnPrograms(&d, c)...)
		open := make([][]taking, len(c.Clients))
		var used, used0 [api.MaxClients]int // now, and when the frame began
		for tick := range 3000 {
			was := make([]machine.Counts, len(c.Clients))
			for i := range was {
				was[i] = x.Counts(i + 1)
			}
			if tick%c.Frame == 0 {
				used0 = used
			}
			x.Step(drawnEvents(&d, c))
			for i, row := range c.Clients {
				n := x.Counts(i + 1)
				used[i] = n.Used
				if n.Used-used0[i] > row.Quota || n.Taken-n.Done > row.Ring || n.Backlog > n.Taken-n.Done {
					t.Fatal(c, tick, i+1, n)
				}
				for k := was[i].Taken; k < n.Taken; k++ {
					open[i] = append(open[i], taking{tick / c.Frame, len(open[i])})
				}
				for range n.Done - was[i].Done {
					open[i] = open[i][1:]
					done++
				}
				for _, y := range open[i] {
					most := (y.ahead+row.Quota)/row.Quota + 1
					worst = max(worst, tick/c.Frame-y.frame)
					if tick/c.Frame-y.frame > most {
						t.Fatal(c, tick, i+1, y, most)
					}
				}
			}
		}
		inOrder(t, x)
	}
	if worst < 3 || done < 500 {
		t.Fatal("too few", worst, done)
	}
}

// inOrder asks whether completions are told in order, each once, and as many as are counted; drops likewise.
func inOrder(t *testing.T, x *machine.Machine) {
	t.Helper()
	for owner := 1; owner <= x.Owners(); owner++ {
		k, drops := 0, 0
		for _, m := range x.Trace(owner) {
			if m.Sort == api.Posted && m.A != k {
				t.Fatal(owner, m, k)
			}
			if m.Sort == api.Posted {
				k++
			}
			if m.Sort == api.Dropped {
				drops++
			}
		}
		if n := x.Counts(owner); n.Done != k || n.Drops != drops {
			t.Fatal(owner, n, k, drops)
		}
	}
}

// spoil makes one number of some tables another one.
func spoil(d *dice, c *api.Config) {
	n := []int{0, 1, 2, 3, 31, 32, 127, 128, 255, 1024, 4096, 4097, 16384, 65535}[d.below(14)]
	w, s, row := &c.Windows[d.below(len(c.Windows))], &c.Slots[d.below(len(c.Slots))], &c.Clients[d.below(len(c.Clients))]
	small := []*int{&w.Owner, &s.Owner, &row.Ring, &row.Quota, &row.Queue, &row.Mac, &row.Channel, &row.Sectors}
	great := []*int{&c.Frame, &w.From, &w.To, &s.From, &s.To, &row.Base, &row.Size, &row.At, &row.First}
	if d.below(2) == 0 {
		*small[d.below(len(small))] = n % 256
	} else {
		*great[d.below(len(great))] = n
	}
}

// T4, P31.5: just the images that are right are accepted; what is accepted is stepped, whatever comes.
func TestImages(t *testing.T) {
	d := dice(44)
	fine, unfit, none := 0, 0, 0
	for range 1500 {
		c := drawnTables(&d, 1+d.below(api.MaxClients))
		for range d.below(3) {
			spoil(&d, &c)
		}
		img := printed(t, c)
		if d.below(4) == 0 {
			b := []byte(img)
			b[d.below(len(b))] ^= byte(1 + d.below(255))
			img = string(b)
		}
		want, e := image.Parse(img)
		x, l, got := machine.Boot(img, nil)
		switch {
		case e != api.OK:
			none++
			if got != e || x != nil || len(l) != 0 {
				t.Fatal(c, got, e)
			}
		case !conf.Check(want):
			unfit++
			if got != api.ErrFit || x != nil || !slices.Equal(l, conf.Faults(want)) {
				t.Fatal(c, got, l)
			}
		default:
			fine++
			if got != api.OK || x == nil || len(l) != 0 {
				t.Fatal(c, got, l)
			}
			steps(t, x, 50, events{3: drawnEvents(&d, c)})
		}
	}
	if min(fine, unfit, none) < 100 {
		t.Fatal("too few", fine, unfit, none)
	}
}

// P31.5: programs of any bytes, that write anywhere they can.
func TestAnyPrograms(t *testing.T) {
	d := dice(55)
	for range 300 {
		c := drawnTables(&d, 1+d.below(api.MaxClients))
		var l []string
		for _, row := range c.Clients {
			b := []byte(d.text(row.Size))
			for i := 0; i < len(b); i += 4 { // mostly codes and registers that may be, so that they go on for a while
				b[i] %= 16
				if i+3 < len(b) && d.below(9) > 0 {
					b[i+1], b[i+2], b[i+3] = b[i+1]%8, b[i+2]%8, 0
				}
			}
			l = append(l, string(b))
		}
		runs(t, c, l, drawnTicks(&d, c, 300))
	}
}

// whole are the tables of the document's ten examples of the whole: frames of 20.
func whole() api.Config {
	return api.Config{
		Frame:   20,
		Windows: []api.Window{{Owner: 0, From: 0, To: 4}, {Owner: 1, From: 4, To: 20}},
		Slots:   []api.Slot{{Owner: 1, From: 4, To: 16}},
		Clients: []api.Client{{Base: 128, Size: 128, Ring: 4, At: 80, Quota: 1, Queue: 2, Mac: 7, Channel: 5, Sectors: 2}},
	}
}

// wholeOfTwo are those of two clients: the second one has its window, its slot and its duties where the first one has nothing.
func wholeOfTwo() api.Config {
	c := whole()
	c.Windows[1].To = 14
	c.Windows = append(c.Windows, api.Window{Owner: 2, From: 14, To: 20})
	c.Slots = append(c.Slots, api.Slot{Owner: 2, From: 16, To: 20})
	c.Clients = append(c.Clients, api.Client{Base: 256, Size: 64, Ring: 2, At: 40, Quota: 1, Queue: 1, Mac: 8, Channel: 6, First: 2, Sectors: 2})
	return c
}

func TestExamplesOfOne(t *testing.T) { // of the whole: 1, 2, 4 and 5
	c := whole()
	p := program(t, c.Clients[0], "set r1 80\nset r2 1\nset r3 2\nset r3 3\nset r3 4\nwrite r2 r1\nrest\nrest\nrest", "", say(0, 2))
	p = p[:80] + "\x00" + p[81:]
	x := steps(t, booted(t, c, p), 60, nil)
	if l := at(x, 1, 4); len(l) != 1 || l[0] != memory(4, p+strings.Repeat("\x00", 14)) {
		t.Fatal(l)
	}
	told(t, x, 1, said(27, p[:2]), posted(40, 0, 1, 2), waked(44, api.Completed))

	x = steps(t, booted(t, c, program(t, c.Clients[0], "rest", "", say(127, 2), say(65535, 1))), 21, nil)
	told(t, x, 1, posted(20, 0, 2, 0), posted(20, 1, 2, 0))
	if n := x.Counts(1); n != (machine.Counts{Taken: 2, Done: 2}) {
		t.Fatal(n)
	}

	p = program(t, c.Clients[0], "rest", "", say(0, 1), say(0, 1), say(0, 1), say(0, 1))
	x = steps(t, booted(t, c, p[:80]+"\xc8"+p[81:]), 2, nil)
	if n := x.Counts(1); n.Taken != 4 {
		t.Fatal(n)
	}
}

func TestExamplesOfTime(t *testing.T) { // of the whole: 6, 7 and 8
	c := whole()
	x := steps(t, booted(t, c, program(t, c.Clients[0], "rest", "", say(0, 1), say(1, 1))), 41, nil)
	told(t, x, 1, said(7, "\x0f"), posted(20, 0, 1, 1), waked(24, api.Completed), halted(24, 0), said(27, "\x00"), posted(40, 1, 1, 1))

	x = steps(t, booted(t, c), 20, events{2: {come(5, 1)}, 9: {come(5, 2), come(5, 3)}})
	told(t, x, 1, waked(4, api.Heard), halted(4, 0), dropped(9, 1))
	if x.Counts(1).Drops != 1 {
		t.Fatal(x.Counts(1))
	}

	x = steps(t, booted(t, c, program(t, c.Clients[0], "rest\nrest\nrest", "")), 30, events{7: {packet(t, 7, "hi")}})
	told(t, x, 1, waked(24, api.Came))
}

func TestExamplesOfTwo(t *testing.T) { // of the whole: 3, 9 and 10
	c := wholeOfTwo()
	one := program(t, c.Clients[0], loop, "", say(0, 2), api.Desc{What: api.Store, Len: 16}, hear(80, 2), api.Desc{What: api.Load, Len: 16})
	every := strings.Repeat("\x05", 64) // a program of no sense
	all := "set r1 1\nset r2 41\nagain:\nwrite r2 r2\nadd r2 r1\njump again"
	want := steps(t, booted(t, c, one), 200, nil).Trace(1)
	for _, two := range []string{"", every, program(t, c.Clients[1], all, ""), program(t, c.Clients[1], loop, "", api.Desc{What: api.Store, Len: 32}, api.Desc{What: api.Load, Len: 32})} {
		if got := steps(t, booted(t, c, one, two), 200, nil).Trace(1); !slices.Equal(got, want) {
			t.Fatal(got, "not", want)
		}
	}
	fewer := whole()
	fewer.Windows[1].To = 14
	if got := steps(t, booted(t, fewer, one), 200, nil).Trace(1); !slices.Equal(got, want) || len(got) < 20 {
		t.Fatal(got, "not", want)
	}
	c.Windows[1].To = 15
	refused(t, printed(t, c), nil, api.ErrFit, api.Fault{Row: 3, Why: conf.WindowMeets})
}

// T2: sectors stay their owners': two clients have both a sector 0, and each loads what it stored.
func TestSectors(t *testing.T) {
	c := wholeOfTwo()
	ask := []api.Desc{{What: api.Store, Addr: 0, Len: 16}, {What: api.Load, Addr: 16, Len: 16}}
	x := booted(t, c, program(t, c.Clients[0], loop+"\nbyte 11\nbyte 22\nbyte 33\nbyte 44", "", ask...), program(t, c.Clients[1], loop+"\nbyte 55\nbyte 66\nbyte 77\nbyte 88", "", ask...))
	steps(t, x, 100, nil)
	for owner := 1; owner <= 2; owner++ {
		s := x.Text(owner)
		if s[:16] != s[16:32] || s[12] != byte(11+44*(owner-1)) {
			t.Fatalf("%q", s)
		}
		i := slices.IndexFunc(x.Trace(owner), func(m api.Mark) bool { return m.Sort == api.Stored })
		if i < 0 || x.Trace(owner)[i].Data != s[:16] || x.Trace(owner)[i].A != 0 {
			t.Fatal(x.Trace(owner))
		}
	}
}
