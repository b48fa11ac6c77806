package plan_test

import (
	"math"
	"slices"
	"testing"

	"campanile/api"
	"campanile/conf"
	"campanile/plan"
	"campanile/region"
	"campanile/slot"
)

// The calls have just these signatures.
var (
	_ func(api.Config) (*plan.Plan, api.Errno)      = plan.New
	_ func(*plan.Plan) int                          = (*plan.Plan).Frame
	_ func(*plan.Plan) int                          = (*plan.Plan).Owners
	_ func(*plan.Plan, int) (api.Client, api.Errno) = (*plan.Plan).Client
	_ func(*plan.Plan, int) api.Span                = (*plan.Plan).Window
	_ func(*plan.Plan, int) int                     = (*plan.Plan).Runs
	_ func(*plan.Plan, int) int                     = (*plan.Plan).Opens
	_ func(*plan.Plan, int) plan.Duty               = (*plan.Plan).Duty
	_ func(*plan.Plan, int, int) int                = (*plan.Plan).When
	_ func(*plan.Plan, int) slot.Step               = (*plan.Plan).Bus
	_ func(*plan.Plan) *slot.Table                  = (*plan.Plan).Slots
	_ func(*plan.Plan) *region.Table                = (*plan.Plan).Regions

	_ = struct{ What, Owner int }(plan.Duty{})
)

// extremes are numbers of which some go round if anything is added to them.
var extremes = []int{math.MinInt, math.MinInt + 1, math.MinInt32, -1, api.MaxNum, api.MaxNum + 1, math.MaxInt - 1, math.MaxInt}

func sp(from, to int) api.Span { return api.Span{From: from, To: to} }

func window(owner, from, to int) api.Window {
	return api.Window{Owner: owner, From: from, To: to}
}

// client is the i'th of clients that have nothing in common.
func client(i int) api.Client {
	return api.Client{
		Base: api.System + 100*i, Size: 100 - i, Ring: 4, At: 20, Quota: 1, Queue: 2,
		Mac: 50 + i, Channel: 90 + i, First: 10 * i, Sectors: 5,
	}
}

// example is tables of two clients: the I/O partition's window begins at 10.
func example() api.Config {
	return api.Config{
		Frame:   40,
		Windows: []api.Window{window(2, 30, 40), window(0, 10, 16), window(1, 0, 8)},
		Slots:   []api.Slot{{Owner: 2, From: 20, To: 29}, {Owner: 1, From: 0, To: 4}, {Owner: 2, From: 4, To: 8}},
		Clients: []api.Client{client(0), client(1)},
	}
}

// made is the plan of tables that are right.
func made(t *testing.T, c api.Config) *plan.Plan {
	t.Helper()
	p, e := plan.New(c)
	if e != api.OK || p == nil {
		t.Fatal(c, conf.Faults(c), e)
	}
	return p
}

// dice are numbers that come the same each time.
type dice uint32

// below is a number from 0 on, below n.
func (d *dice) below(n int) int {
	*d = *d*1664525 + 1013904223
	return int(uint32(*d)>>8) % n
}

// order is the numbers from 0 on, below n, in any order.
func (d *dice) order(n int) []int {
	l := make([]int, n)
	for i := range l {
		k := d.below(i + 1)
		l[i], l[k] = l[k], i
	}
	return l
}

// drawn is tables that are right: windows and slots lie anywhere, and their rows
// stand in any order.
func drawn(d *dice) api.Config {
	n := 1 + d.below(api.MaxClients)
	var c api.Config
	at := 0
	for _, owner := range d.order(n + 1) {
		at += d.below(3) * d.below(6)
		width := 1 + d.below(9)
		if owner == 0 {
			width = 2*n + d.below(3)*d.below(5)
		}
		c.Windows = append(c.Windows, window(owner, at, at+width))
		at += width
	}
	end := 0
	for _, i := range d.order(n + d.below(9)) {
		end += d.below(3) * d.below(6)
		width := api.Unit + d.below(9)
		c.Slots = append(c.Slots, api.Slot{Owner: 1 + i%n, From: end, To: end + width})
		end += width
	}
	c.Frame = max(at, end) + d.below(3)*d.below(6)
	for i := range n {
		c.Clients = append(c.Clients, client(i))
	}
	mixed := slices.Clone(c.Windows)
	for i, k := range d.order(n + 1) {
		c.Windows[i] = mixed[k]
	}
	return c
}

func TestNumbers(t *testing.T) {
	for i, what := range []int{plan.Idle, plan.Post, plan.Collect} {
		if what != i {
			t.Error(i, what)
		}
	}
}

// P18.1: the plan of tables that are right, and of no others.
func TestNew(t *testing.T) {
	made(t, example())
	for why, change := range map[int]func(c *api.Config){
		conf.BadFrame:    func(c *api.Config) { c.Frame = api.MaxFrame + 1 },
		conf.BadClient:   func(c *api.Config) { c.Clients[1].Size = api.MinSize - 1 },
		conf.Shared:      func(c *api.Config) { c.Clients[1].Mac = c.Clients[0].Mac },
		conf.BadWindow:   func(c *api.Config) { c.Windows[0].To = 41 },
		conf.WindowMeets: func(c *api.Config) { c.Windows[2].To = 11 },
		conf.NoWindow:    func(c *api.Config) { c.Windows = c.Windows[1:] },
		conf.ShortWindow: func(c *api.Config) { c.Windows[1].To = 13 },
		conf.BadSlot:     func(c *api.Config) { c.Slots[0].To = 23 },
		conf.SlotMeets:   func(c *api.Config) { c.Slots[2].From = 3; c.Slots[2].To = 9 },
		conf.BadQuota:    func(c *api.Config) { c.Clients[0].Quota = 2 },
	} {
		c := example()
		change(&c)
		if l := conf.Faults(c); len(l) == 0 || l[0].Why != why {
			t.Fatal(why, l)
		}
		if p, e := plan.New(c); p != nil || e != api.ErrFit {
			t.Error(why, p, e)
		}
	}
	for _, c := range []api.Config{
		{},
		{Frame: 20},
		{Clients: make([]api.Client, 9)},
		{Frame: math.MaxInt, Windows: make([]api.Window, 100), Slots: make([]api.Slot, 100), Clients: make([]api.Client, 100)},
	} {
		if p, e := plan.New(c); p != nil || e != api.ErrFit {
			t.Error(c, p, e)
		}
	}
}

// P18.1: right tables have a plan, and all that aren't have none, whatever is spoiled.
func TestNewOfSpoiled(t *testing.T) {
	d := dice(1)
	right, wrong := 0, 0
	for range 5000 {
		c := drawn(&d)
		any := append([]int{d.below(300) - 5, d.below(30) - 5, 0}, extremes...)[d.below(11)]
		w, s, x := &c.Windows[d.below(len(c.Windows))], &c.Slots[d.below(len(c.Slots))], &c.Clients[d.below(len(c.Clients))]
		*[]*int{
			&c.Frame, &w.Owner, &w.From, &w.To, &s.Owner, &s.From, &s.To, &x.Base, &x.Size, &x.Ring,
			&x.At, &x.Quota, &x.Queue, &x.Mac, &x.Channel, &x.First, &x.Sectors,
		}[d.below(17)] = any
		p, e := plan.New(c)
		if conf.Check(c) {
			right++
			if p == nil || e != api.OK || p.Frame() != c.Frame {
				t.Fatal(c, p, e)
			}
		} else {
			wrong++
			if p != nil || e != api.ErrFit {
				t.Fatal(c, p, e)
			}
		}
	}
	if right < 100 || wrong < 100 {
		t.Fatal(right, wrong)
	}
}

// P18.1: what stands in the tables.
func TestTables(t *testing.T) {
	d := dice(2)
	for range 500 {
		c := drawn(&d)
		p := made(t, c)
		if p.Frame() != c.Frame || p.Owners() != len(c.Clients) {
			t.Fatal(c, p.Frame(), p.Owners())
		}
		windows := map[int]api.Span{}
		for _, w := range c.Windows {
			windows[w.Owner] = sp(w.From, w.To)
		}
		for _, owner := range append([]int{0, 1, 2, 3, 4, 5, 6, 7, 8, 9, 10, 1<<32 + 1}, extremes...) {
			if got := p.Window(owner); got != windows[owner] {
				t.Fatal(c, owner, got)
			}
			x, e := p.Client(owner)
			if owner >= 1 && owner <= len(c.Clients) {
				if x != c.Clients[owner-1] || e != api.OK {
					t.Fatal(c, owner, x, e)
				}
			} else if x != (api.Client{}) || e != api.ErrOwner {
				t.Fatal(c, owner, x, e)
			}
		}
	}
}

// tick is what is due at one.
type tick struct {
	runs, opens int
	duty        plan.Duty
	bus         slot.Step
}

// ask is what a plan says of a tick.
func ask(p *plan.Plan, at int) tick {
	return tick{p.Runs(at), p.Opens(at), p.Duty(at), p.Bus(at)}
}

// plain is what is due at each tick of a frame, from the document's words.
func plain(c api.Config) []tick {
	out := make([]tick, c.Frame)
	for i := range out {
		out[i].bus.Unit = -1
	}
	for _, w := range c.Windows {
		if w.Owner == 0 {
			for i := 1; i <= len(c.Clients); i++ {
				out[w.From+2*i-2].duty = plan.Duty{What: plan.Post, Owner: i}
				out[w.From+2*i-1].duty = plan.Duty{What: plan.Collect, Owner: i}
			}
			continue
		}
		out[w.From].opens = w.Owner
		for i := w.From; i < w.To; i++ {
			out[i].runs = w.Owner
		}
	}
	for _, s := range c.Slots {
		for i := s.From; i < s.To; i++ {
			out[i].bus.Owner = s.Owner
			if n := i - s.From; n < (s.To-s.From)/4*4 {
				out[i].bus.Unit, out[i].bus.Phase = n/4, n%4
			}
		}
	}
	return out
}

// P18.2: tick by tick, far ones too.
func TestTicks(t *testing.T) {
	d := dice(3)
	for range 300 {
		c := drawn(&d)
		p, want := made(t, c), plain(c)
		far := math.MaxInt - math.MaxInt%c.Frame - 3*c.Frame
		for at := range 2 * c.Frame {
			for _, from := range []int{0, 5 * c.Frame, (api.MaxNum + 1) * c.Frame, far} {
				if got := ask(p, from+at); got != want[at%c.Frame] {
					t.Fatal(c, from+at, got, want[at%c.Frame])
				}
			}
		}
		for _, at := range []int{-1, -2, -c.Frame, -c.Frame - 1, -100 * c.Frame, math.MinInt32, math.MinInt} {
			if got := ask(p, at); got != (tick{bus: slot.Step{Unit: -1}}) {
				t.Fatal(c, at, got)
			}
		}
	}
}

// P18.2: a tick below 0 is none of a window that begins at 0.
func TestBelowZero(t *testing.T) {
	c := example()
	for _, windows := range [][]api.Window{
		{window(0, 0, 4), window(1, 4, 20), window(2, 20, 40)},
		{window(1, 0, 20), window(2, 20, 36), window(0, 36, 40)},
	} {
		c.Windows = windows
		p := made(t, c)
		for _, at := range []int{-1, -4, -20, -39, -40, -41, math.MinInt} {
			if got := ask(p, at); got != (tick{bus: slot.Step{Unit: -1}}) {
				t.Fatal(at, got)
			}
		}
	}
}

// P18.2: the offset of each duty, and of nothing else.
func TestWhen(t *testing.T) {
	d := dice(4)
	numbers := append([]int{0, 1, 2, 3, 4, 5, 6, 7, 8, 9, 10, 1<<32 + 1, 1<<63 - 2, 1<<62 + 1}, extremes...)
	for range 100 {
		c := drawn(&d)
		p := made(t, c)
		due := map[plan.Duty]int{}
		for at, x := range plain(c) {
			if x.duty.What != plan.Idle {
				due[x.duty] = at
			}
		}
		for _, what := range numbers {
			for _, owner := range numbers {
				want, ok := due[plan.Duty{What: what, Owner: owner}]
				if !ok {
					want = -1
				}
				if got := p.When(what, owner); got != want {
					t.Fatal(c, what, owner, got, want)
				}
			}
		}
	}
}

// The document's example.
func TestExample(t *testing.T) {
	p := made(t, example())
	for at, want := range map[int]plan.Duty{
		9:  {},
		10: {What: plan.Post, Owner: 1},
		11: {What: plan.Collect, Owner: 1},
		12: {What: plan.Post, Owner: 2},
		13: {What: plan.Collect, Owner: 2},
		14: {},
		15: {},
		16: {},
		53: {What: plan.Collect, Owner: 2},
	} {
		if got := p.Duty(at); got != want {
			t.Error(at, got)
		}
	}
	if p.When(plan.Post, 1) != 10 || p.When(plan.Collect, 1) != 11 || p.When(plan.Post, 2) != 12 || p.When(plan.Collect, 2) != 13 {
		t.Error(p.When(plan.Post, 1), p.When(plan.Collect, 1), p.When(plan.Post, 2), p.When(plan.Collect, 2))
	}
}

// P18.2: they are those of the layers below.
func TestSlotsAndRegions(t *testing.T) {
	d := dice(5)
	for range 200 {
		c := drawn(&d)
		p := made(t, c)
		slots, e := slot.New(c.Frame, c.Slots...)
		if e != api.OK {
			t.Fatal(c, e)
		}
		for owner := range api.MaxClients + 2 {
			if got, want := p.Slots().Starts(owner), slots.Starts(owner); !slices.Equal(got, want) {
				t.Fatal(c, owner, got, want)
			}
			if got, want := p.Slots().Next(c.Frame/2, owner), slots.Next(c.Frame/2, owner); got != want {
				t.Fatal(c, owner, got, want)
			}
		}
		for at := range c.Frame {
			if p.Bus(at) != slots.At(at) || p.Slots().At(at) != slots.At(at) {
				t.Fatal(c, at, p.Bus(at), p.Slots().At(at))
			}
		}
		if got := p.Regions().All(); !slices.Equal(got, conf.Regions(c)) { // the i'th client's stands ahead of the next one's
			t.Fatal(c, got)
		}
		for i, x := range c.Clients {
			if at, e := p.Regions().Map(i+1, x.Size-1, 1); at != x.Base+x.Size-1 || e != api.OK {
				t.Fatal(c, i, at, e)
			}
		}
	}
}

// P18.3: one Post and, just behind it, one Collect of each client in each frame.
func TestDutiesOfEachFrame(t *testing.T) {
	d := dice(6)
	for range 100 {
		c := drawn(&d)
		p := made(t, c)
		for frame := range 3 {
			there := map[plan.Duty][]int{}
			for at := range c.Frame {
				if x := p.Duty(frame*c.Frame + at); x != (plan.Duty{}) {
					there[x] = append(there[x], at)
				}
			}
			if len(there) != 2*len(c.Clients) {
				t.Fatal(c, there)
			}
			seen := map[int]bool{}
			for owner := 1; owner <= len(c.Clients); owner++ {
				post, collect := there[plan.Duty{What: plan.Post, Owner: owner}], there[plan.Duty{What: plan.Collect, Owner: owner}]
				if len(post) != 1 || len(collect) != 1 || collect[0] != post[0]+1 ||
					post[0] != p.When(plan.Post, owner) || collect[0] != p.When(plan.Collect, owner) {
					t.Fatal(c, owner, post, collect)
				}
				for _, at := range []int{post[0], collect[0]} {
					if w := p.Window(0); seen[at] || at < w.From || at >= w.To {
						t.Fatal(c, owner, at, w)
					}
					seen[at] = true
				}
			}
		}
	}
}

// P18.3: who runs at a tick is the one in whose window it is; each runs in its own one alone, and opens once a frame.
func TestOneRuns(t *testing.T) {
	d := dice(7)
	for range 100 {
		c := drawn(&d)
		p := made(t, c)
		runs, opens := map[int]int{}, map[int]int{}
		for at := range c.Frame {
			whose := 0
			for owner := 1; owner <= p.Owners(); owner++ {
				if w := p.Window(owner); w.From <= at && at < w.To {
					whose = whose*100 + owner
				}
			}
			if got := p.Runs(at); got != whose {
				t.Fatal(c, at, got, whose)
			}
			runs[p.Runs(at)]++
			opens[p.Opens(at)]++
		}
		for owner := 1; owner <= p.Owners(); owner++ {
			if w := p.Window(owner); runs[owner] != w.To-w.From || opens[owner] != 1 || p.Opens(w.From) != owner {
				t.Fatal(c, owner, runs, opens)
			}
		}
	}
}

// Of a nil plan: 0, -1, none, ErrOwner, nil; the bus is nobody's, as of a nil table.
// P1: of one that no call made nothing is said but that no call panics.
func TestNil(t *testing.T) {
	var p *plan.Plan
	if p.Frame() != 0 || p.Owners() != 0 || p.Slots() != nil || p.Regions() != nil {
		t.Fatal(p.Frame(), p.Owners(), p.Slots(), p.Regions())
	}
	for _, n := range append([]int{0, 1, 2}, extremes...) {
		if got := ask(p, n); got != (tick{bus: slot.Step{Unit: -1}}) {
			t.Error(n, got)
		}
		if x, e := p.Client(n); x != (api.Client{}) || e != api.ErrOwner {
			t.Error(n, x, e)
		}
		if w := p.Window(n); w != (api.Span{}) {
			t.Error(n, w)
		}
		if p.When(plan.Post, n) != -1 || p.When(n, 1) != -1 || p.When(plan.Idle, n) != -1 {
			t.Error(n, p.When(plan.Post, n), p.When(n, 1))
		}
		var none plan.Plan
		ask(&none, n)
		none.Client(n)
		none.Window(n)
		none.When(n, n)
		none.Slots().At(n)
		none.Regions().Back(n)
	}
}

// P3: the tables stay as they are, spare room too, and aren't kept.
func TestTablesStay(t *testing.T) {
	was, c := example(), example()
	c.Windows = append(c.Windows, window(9, 9, 9))[:3]
	c.Slots = append(c.Slots, api.Slot{Owner: 9})[:3]
	c.Clients = append(c.Clients, api.Client{Base: 9})[:2]
	p, want := made(t, c), plain(was)
	if !slices.Equal(c.Windows[:4], append(was.Windows, window(9, 9, 9))) ||
		!slices.Equal(c.Slots[:4], append(was.Slots, api.Slot{Owner: 9})) ||
		!slices.Equal(c.Clients[:3], append(was.Clients, api.Client{Base: 9})) {
		t.Fatal(c)
	}
	clear(c.Windows)
	clear(c.Slots)
	clear(c.Clients)
	for at := range was.Frame {
		if got := ask(p, at); got != want[at] {
			t.Fatal(at, got, want[at])
		}
	}
	if x, e := p.Client(2); x != was.Clients[1] || e != api.OK {
		t.Fatal(x, e)
	}
	if w := p.Window(2); w != sp(30, 40) {
		t.Fatal(w)
	}
	if r, e := p.Regions().Find(2); r != (api.Region{Owner: 2, Base: 228, Size: 99}) || e != api.OK {
		t.Fatal(r, e)
	}
}
