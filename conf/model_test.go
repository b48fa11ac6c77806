package conf_test

import (
	"slices"
	"testing"

	"campanile/api"
	"campanile/conf"
)

// dice are numbers that come the same each time.
type dice uint32

// below is a number from 0 on, below n.
func (d *dice) below(n int) int {
	*d = *d*1664525 + 1013904223
	return int(uint32(*d)>>8) % n
}

// places are those of a span, one by one; none, if it is no span.
func places(from, to int) map[int]bool {
	out := map[int]bool{}
	for i := from; from >= 0 && i < to; i++ {
		out[i] = true
	}
	return out
}

// both: is a place in both?
func both(a, b map[int]bool) bool {
	for i := range a {
		if b[i] {
			return true
		}
	}
	return false
}

// isSpan tells whether places are some, all of them within a frame.
func isSpan(from, to, frame int) bool {
	return len(places(from, to)) > 0 && to <= frame
}

// plain is all that is wrong, from the document's words, place by place.
func plain(c api.Config) []api.Fault {
	n := len(c.Clients)
	if c.Frame < 1 || c.Frame > 4096 || n < 1 || n > 8 || len(c.Windows) > 9 || len(c.Slots) > 32 {
		return []api.Fault{{Row: 0, Why: 1}}
	}
	out := plainClients(c)
	out = append(out, plainWindows(c)...)
	units := make([]int, n+1)
	for i, s := range c.Slots {
		if s.Owner < 1 || s.Owner > n || !isSpan(s.From, s.To, c.Frame) || len(places(s.From, s.To))/4 == 0 {
			out = append(out, api.Fault{Row: i + 1, Why: 8})
		} else {
			units[s.Owner] += len(places(s.From, s.To)) / 4
		}
	}
	for i, s := range c.Slots {
		for _, x := range c.Slots[:i] {
			if both(places(s.From, s.To), places(x.From, x.To)) {
				out = append(out, api.Fault{Row: i + 1, Why: 9})
				break
			}
		}
	}
	for i, x := range c.Clients {
		if x.Quota > units[i+1] {
			out = append(out, api.Fault{Row: i + 1, Why: 10})
		}
	}
	return out
}

func plainClients(c api.Config) []api.Fault {
	var out []api.Fault
	for i, x := range c.Clients {
		if wrongClient(x) {
			out = append(out, api.Fault{Row: i + 1, Why: 2})
		}
	}
	for i, x := range c.Clients {
		for _, y := range c.Clients[:i] {
			if wrongClient(x) || wrongClient(y) {
				continue
			}
			if x.Mac == y.Mac || x.Channel == y.Channel ||
				both(places(x.Base, x.Base+x.Size), places(y.Base, y.Base+y.Size)) ||
				both(places(x.First, x.First+x.Sectors), places(y.First, y.First+y.Sectors)) {
				out = append(out, api.Fault{Row: i + 1, Why: 3})
				break
			}
		}
	}
	return out
}

func plainWindows(c api.Config) []api.Fault {
	var out []api.Fault
	n := len(c.Clients)
	bad := func(w api.Window) bool { return w.Owner < 0 || w.Owner > n || !isSpan(w.From, w.To, c.Frame) }
	for i, w := range c.Windows {
		if bad(w) {
			out = append(out, api.Fault{Row: i + 1, Why: 4})
		}
	}
	for i, w := range c.Windows {
		for _, x := range c.Windows[:i] {
			if w.Owner == x.Owner || both(places(w.From, w.To), places(x.From, x.To)) {
				out = append(out, api.Fault{Row: i + 1, Why: 5})
				break
			}
		}
	}
	for owner := range n + 1 {
		has := 0
		for _, w := range c.Windows {
			if w.Owner == owner {
				has++
			}
		}
		if has == 0 {
			out = append(out, api.Fault{Row: owner, Why: 6})
		}
	}
	for _, w := range c.Windows {
		if w.Owner != 0 {
			continue
		}
		if !bad(w) && len(places(w.From, w.To)) < 2*n {
			out = append(out, api.Fault{Row: 0, Why: 7})
		}
		break
	}
	return out
}

// spoiled is right tables in which some numbers are others.
func spoiled(d *dice) api.Config {
	c := right(1 + d.below(4))
	c.Frame = 50 + d.below(160)
	for range d.below(5) {
		small, any := d.below(12)-2, d.below(240)-5
		switch d.below(7) {
		case 0:
			w := &c.Windows[d.below(len(c.Windows))]
			*[]*int{&w.Owner, &w.From, &w.To}[d.below(3)] = small
		case 1:
			w := &c.Windows[d.below(len(c.Windows))]
			*[]*int{&w.From, &w.To}[d.below(2)] = any
		case 2:
			s := &c.Slots[d.below(len(c.Slots))]
			*[]*int{&s.Owner, &s.From, &s.To}[d.below(3)] = small
		case 3:
			c.Slots = append(c.Slots, slot(1+d.below(len(c.Clients)), any, any+d.below(20)))
		case 4:
			c.Windows = append(c.Windows, window(d.below(6), any, any+d.below(20)))
		case 5:
			*fields(&c.Clients[d.below(len(c.Clients))])[d.below(10)] = small
		case 6:
			*fields(&c.Clients[d.below(len(c.Clients))])[d.below(10)] = any
		}
	}
	return c
}

// P15.1, P15.2: held against the document's words, for long.
func TestFaultsOfSpoiledTables(t *testing.T) {
	d := dice(1)
	seen := map[int]int{}
	for range 20000 {
		c := spoiled(&d)
		want := plain(c)
		testFaults(t, c, want...)
		for _, f := range want {
			seen[f.Why]++
		}
		seen[0] += max(0, 1-len(want))
		if len(want) == 0 {
			testApart(t, c)
		}
	}
	for why := range 11 {
		if why != conf.BadFrame && seen[why] < 100 {
			t.Error("seldom there:", why, seen[why])
		}
	}
}

// testApart asks what the document says of tables that are right (P15.3), tick by tick and place by place.
func testApart(t *testing.T, c api.Config) {
	t.Helper()
	owners, ticks, memory := map[int]int{}, map[int]int{}, map[int]int{}
	for _, w := range c.Windows {
		owners[w.Owner]++
		for i := range places(w.From, w.To) {
			ticks[i]++
		}
	}
	for owner := range len(c.Clients) + 1 {
		if owners[owner] != 1 || len(owners) != len(c.Clients)+1 {
			t.Fatal("windows of", owner, c)
		}
	}
	bus := map[int]int{}
	for _, s := range c.Slots {
		for i := range places(s.From, s.To) {
			bus[i]++
		}
	}
	for _, r := range conf.Regions(c) {
		for i := range places(r.Base, r.Base+r.Size) {
			memory[i]++
		}
	}
	for _, l := range []map[int]int{ticks, bus, memory} {
		for at, n := range l {
			if n != 1 || at < 0 {
				t.Fatal("two at", at, c)
			}
		}
	}
	for i, x := range c.Clients {
		if x.Quota > conf.Units(c, i+1) || x.Quota < 1 {
			t.Fatal("quota of", i+1, c)
		}
	}
}

// P15.3: of the tables that are right with nothing changed, too.
func TestApart(t *testing.T) {
	for n := 1; n <= 8; n++ {
		testApart(t, right(n))
	}
}

// P1: any numbers, and lists that are nil.
func TestAnyNumbers(t *testing.T) {
	for _, a := range append([]int{0, 1, 200}, extremes...) {
		for _, b := range append([]int{0, 1, 200}, extremes...) {
			c := right(2)
			c.Windows[0], c.Windows[1], c.Windows[2] = window(a, b, a), window(b, a, b), window(0, a, b)
			c.Slots = []api.Slot{slot(a, b, a), slot(b, a, b), slot(1, a, b), slot(2, b, a)}
			for i, f := range fields(&c.Clients[0]) {
				*f = []int{a, b}[i%2]
			}
			for i, f := range fields(&c.Clients[1]) {
				*f = []int{a, b}[i/2%2]
			}
			l := conf.Faults(c)
			if len(l) == 0 || conf.Check(c) || !slices.IsSortedFunc(l, byWhy) {
				t.Fatal(a, b, l)
			}
			conf.Units(c, a)
			conf.Regions(c)
		}
	}
	if l := conf.Regions(api.Config{}); len(l) != 0 {
		t.Fatal(l)
	}
}

// byWhy is the order of faults: by Why, then by Row.
func byWhy(a, b api.Fault) int {
	if a.Why != b.Why {
		return a.Why - b.Why
	}
	return a.Row - b.Row
}

// P3: what is handed in stays as it is, spare room too; what is answered is new each time.
func TestWhatIsHandedInStays(t *testing.T) {
	c := right(3)
	c.Windows[1].To, c.Clients[1].Size, c.Slots[0].Owner = 500, 0, 9
	was := copied(c)
	c.Windows, c.Slots, c.Clients = c.Windows[:3], c.Slots[:2], c.Clients[:2]
	a, b := conf.Faults(c), conf.Faults(c)
	x, y := conf.Regions(c), conf.Regions(c)
	conf.Check(c)
	conf.Units(c, 1)
	for i := range a {
		a[i].Row += 100
	}
	for i := range x {
		x[i].Base += 100
	}
	if !slices.Equal(b, conf.Faults(c)) || slices.Equal(a, b) || !slices.Equal(y, conf.Regions(c)) || slices.Equal(x, y) {
		t.Fatal(a, b, x, y)
	}
	if !slices.Equal(c.Windows[:4], was.Windows) || !slices.Equal(c.Slots[:3], was.Slots) || !slices.Equal(c.Clients[:3], was.Clients) {
		t.Fatal(c, was)
	}
}
