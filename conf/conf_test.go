package conf_test

import (
	"math"
	"math/big"
	"slices"
	"testing"

	"campanile/api"
	"campanile/conf"
)

// The calls have just these signatures.
var (
	_ func(api.Config) []api.Fault  = conf.Faults
	_ func(api.Config) bool         = conf.Check
	_ func(int) int                 = conf.Ring
	_ func(api.Config, int) int     = conf.Units
	_ func(api.Config) []api.Region = conf.Regions
)

// What is wrong has just these numbers.
var _ = [...]struct{}{
	conf.BadFrame - 1: {}, conf.BadClient - 1: {}, conf.Shared - 1: {}, conf.BadWindow - 1: {}, conf.WindowMeets - 1: {},
	conf.NoWindow - 1: {}, conf.ShortWindow - 1: {}, conf.BadSlot - 1: {}, conf.SlotMeets - 1: {}, conf.BadQuota - 1: {},
}

// extremes are numbers of which some go round if anything is added to them.
var extremes = []int{math.MinInt, math.MinInt + 1, math.MinInt32, -1, math.MaxInt32, math.MaxInt - 1, math.MaxInt}

func fault(row, why int) api.Fault {
	return api.Fault{Row: row, Why: why}
}

func window(owner, from, to int) api.Window {
	return api.Window{Owner: owner, From: from, To: to}
}

func slot(owner, from, to int) api.Slot {
	return api.Slot{Owner: owner, From: from, To: to}
}

// client is the i'th of clients that have nothing in common.
func client(i int) api.Client {
	return api.Client{
		Base: api.System + 100*i, Size: 100, Ring: 4, At: 20, Quota: 1, Queue: 2,
		Mac: 50 + i, Channel: 90 + i, First: 10 * i, Sectors: 5,
	}
}

// right is tables of n clients in which nothing is wrong.
func right(n int) api.Config {
	c := api.Config{Frame: 200, Windows: []api.Window{window(0, 0, 2*n)}}
	for i := range n {
		c.Clients = append(c.Clients, client(i))
		c.Windows = append(c.Windows, window(i+1, 20+10*i, 30+10*i))
		c.Slots = append(c.Slots, slot(i+1, 8*i, 8*i+7))
	}
	return c
}

// copied is the same tables, with rows of their own.
func copied(c api.Config) api.Config {
	c.Windows, c.Slots, c.Clients = slices.Clone(c.Windows), slices.Clone(c.Slots), slices.Clone(c.Clients)
	return c
}

// testFaults asks for what is wrong, and for that alone.
func testFaults(t *testing.T, c api.Config, want ...api.Fault) {
	t.Helper()
	if l := conf.Faults(c); !slices.Equal(l, want) {
		t.Fatalf("%v: %v, not %v", c, l, want)
	}
	if conf.Check(c) != (len(want) == 0) {
		t.Fatalf("%v: %v", c, conf.Check(c))
	}
}

// changed is right tables of n clients with something changed in them.
func changed(n int, change func(c *api.Config)) api.Config {
	c := right(n)
	change(&c)
	return c
}

func TestRight(t *testing.T) { // P15.1
	for n := 1; n <= api.MaxClients; n++ {
		testFaults(t, right(n))
	}
}

func TestNumbers(t *testing.T) {
	for i, why := range []int{conf.BadFrame, conf.BadClient, conf.Shared, conf.BadWindow, conf.WindowMeets,
		conf.NoWindow, conf.ShortWindow, conf.BadSlot, conf.SlotMeets, conf.BadQuota} {
		if why != i+1 {
			t.Error(i, why)
		}
	}
}

func TestRing(t *testing.T) { // P15.1
	want := map[int]int{1: 10, 2: 18, 4: 34, 8: 66, 16: 130}
	numbers := append([]int{1<<32 + 4, 64, 128, 256, 1 << 61, 1 << 62}, extremes...)
	for n := -300; n < 300; n++ {
		numbers = append(numbers, n)
	}
	for _, n := range numbers {
		if got := conf.Ring(n); got != want[n] {
			t.Error(n, got)
		}
	}
}

// P15.1: sizes that may not be; nothing else is told then, whatever is wrong.
func TestBadFrame(t *testing.T) {
	for _, n := range append([]int{0, 4097, 5000, 1<<32 + 200}, extremes...) {
		c := changed(2, func(c *api.Config) { c.Frame = n })
		testFaults(t, c, fault(0, 1))
		c.Clients[0], c.Clients[1], c.Windows[1] = api.Client{}, api.Client{}, api.Window{}
		testFaults(t, c, fault(0, 1))
		if conf.Units(c, 1) != 0 || conf.Units(c, 2) != 0 {
			t.Fatal(n, "has units")
		}
	}
	testFaults(t, changed(2, func(c *api.Config) { c.Frame = api.MaxFrame }))
	testFaults(t, changed(1, func(c *api.Config) { c.Frame = 1 }), fault(1, 4), fault(2, 4), fault(1, 8), fault(1, 10)) // a frame, but too short for all else
	testFaults(t, api.Config{}, fault(0, 1))
	testFaults(t, api.Config{Frame: 20}, fault(0, 1))
	testFaults(t, api.Config{Frame: 20, Windows: []api.Window{window(0, 0, 4)}}, fault(0, 1))

	nine := changed(8, func(c *api.Config) { c.Clients = append(c.Clients, client(8)) })
	testFaults(t, nine, fault(0, 1))
	many := right(1)
	many.Clients = make([]api.Client, 1<<16)
	testFaults(t, many, fault(0, 1))
	if conf.Units(nine, 1) != 0 || conf.Units(many, 1) != 0 {
		t.Fatal("units of too many clients")
	}
}

// P15.1: how many windows and slots there may be, whoever's they are.
func TestHowManyRows(t *testing.T) {
	for n := 1; n <= 8; n++ {
		c := right(n)
		for i := len(c.Windows); i < api.MaxClients+1; i++ { // nine, of however few clients
			c.Windows = append(c.Windows, window(0, 190+i, 191+i))
		}
		for _, f := range conf.Faults(c) {
			if f.Why != conf.WindowMeets {
				t.Fatal(n, f)
			}
		}
		c.Windows = append(c.Windows, window(0, 180, 181))
		testFaults(t, c, fault(0, 1))
		if conf.Units(c, 1) != 0 {
			t.Fatal("units of too many windows")
		}
	}
	c := right(1)
	for len(c.Slots) < api.MaxSlots {
		i := len(c.Slots)
		c.Slots = append(c.Slots, slot(1, 4+4*i, 8+4*i))
	}
	testFaults(t, c)
	if n := conf.Units(c, 1); n != 32 {
		t.Fatal(n)
	}
	c.Slots = append(c.Slots, slot(1, 180, 184))
	testFaults(t, c, fault(0, 1))
	if conf.Units(c, 1) != 0 {
		t.Fatal("units of too many slots")
	}
}

// sum is a number that does not go round.
func sum(l ...int) *big.Int {
	out := new(big.Int)
	for _, n := range l {
		out.Add(out, big.NewInt(int64(n)))
	}
	return out
}

// wrongClient is what the document says of a BadClient, word by word.
func wrongClient(x api.Client) bool {
	behind := func(a, b int, most int) bool { return sum(a, b).Cmp(sum(most)) > 0 }
	ring := map[int]int{1: 10, 2: 18, 4: 34, 8: 66, 16: 130}[x.Ring]
	switch {
	case x.Size < 32 || x.Size > 1024, x.Base < 128 || behind(x.Base, x.Size, 16384):
		return true
	case ring == 0 || x.At < 0 || behind(x.At, ring, x.Size):
		return true
	case x.Quota < 1 || x.Quota > 16, x.Queue < 0 || x.Queue > 16:
		return true
	case x.Mac < 0 || x.Mac > 255, x.Channel < 0 || x.Channel > 255:
		return true
	}
	return x.Sectors < 0 || x.Sectors > 64 || x.First < 0 || behind(x.First, x.Sectors, 512)
}

// edges are numbers one of which each of a client's limits is, and those beside them.
func edges() []int {
	out := slices.Clone(extremes)
	for _, n := range []int{0, 1, 2, 4, 8, 16, 32, 64, 66, 70, 82, 90, 128, 130, 228, 255, 412, 448, 507, 512, 894, 1024, 15360, 16284, 16352, 16384, 1 << 32} {
		out = append(out, n-1, n, n+1)
	}
	return out
}

// fields are a client's numbers, one by one.
func fields(x *api.Client) []*int {
	return []*int{&x.Base, &x.Size, &x.Ring, &x.At, &x.Quota, &x.Queue, &x.Mac, &x.Channel, &x.First, &x.Sectors}
}

// badClients is whether each client is told to be bad.
func badClients(c api.Config) []bool {
	out := make([]bool, len(c.Clients))
	for _, f := range conf.Faults(c) {
		if f.Why == conf.BadClient {
			out[f.Row-1] = true
		}
	}
	return out
}

// P15.1: each number of a client's row at its edges, and each two of them.
func TestBadClient(t *testing.T) {
	few, all := []int{-1, 0, 1, 31, 32, 64, 65, 128, 512, 1024, 16384, math.MinInt, math.MaxInt}, edges()
	c := right(1)
	for i := range fields(&c.Clients[0]) {
		for j := range fields(&c.Clients[0]) {
			for _, a := range all {
				for _, b := range few {
					x := client(0)
					*fields(&x)[i] = a
					if i != j {
						*fields(&x)[j] = b
					}
					c.Clients[0] = x
					if got := badClients(c)[0]; got != wrongClient(x) {
						t.Fatal(x, got)
					}
				}
			}
		}
	}
}

// P15.1: what just may be, and what just may not.
func TestBadClientAtItsEdges(t *testing.T) {
	for _, x := range []struct {
		bad bool
		c   api.Client
	}{
		{false, api.Client{Base: 128, Size: 32, Ring: 1, At: 22, Quota: 1}},
		{true, api.Client{Base: 128, Size: 32, Ring: 1, At: 23, Quota: 1}},
		{true, api.Client{Base: 128, Size: 31, Ring: 1, At: 0, Quota: 1}},
		{true, api.Client{Base: 127, Size: 32, Ring: 1, At: 0, Quota: 1}},
		{false, api.Client{Base: 15360, Size: 1024, Ring: 16, At: 894, Quota: 16, Queue: 16, Mac: 255, Channel: 255, First: 448, Sectors: 64}},
		{true, api.Client{Base: 15361, Size: 1024, Ring: 16, At: 0, Quota: 16}},
		{true, api.Client{Base: 15000, Size: 1025, Ring: 16, At: 0, Quota: 16}},
		{false, api.Client{Base: 16352, Size: 32, Ring: 1, At: 0, Quota: 1}},
		{true, api.Client{Base: 16353, Size: 32, Ring: 1, At: 0, Quota: 1}},
		{true, api.Client{Base: 128, Size: 1024, Ring: 16, At: 895, Quota: 1}},
		{false, api.Client{Base: 128, Size: 130, Ring: 16, Quota: 1}},
		{true, api.Client{Base: 128, Size: 129, Ring: 16, Quota: 1}},
		{true, api.Client{Base: 128, Size: 32, Ring: 1, At: -1, Quota: 1}},
		{true, api.Client{Base: 128, Size: 32, Ring: 3, Quota: 1}},
		{true, api.Client{Base: 128, Size: 32, Ring: 0, Quota: 1}},
		{true, api.Client{Base: 128, Size: 1024, Ring: 32, Quota: 1}},
		{true, api.Client{Base: 128, Size: 32, Ring: 1}},
		{true, api.Client{Base: 128, Size: 32, Ring: 1, Quota: 17}},
		{true, api.Client{Base: 128, Size: 32, Ring: 1, Quota: 1, Queue: 17}},
		{true, api.Client{Base: 128, Size: 32, Ring: 1, Quota: 1, Queue: -1}},
		{true, api.Client{Base: 128, Size: 32, Ring: 1, Quota: 1, Mac: 256}},
		{true, api.Client{Base: 128, Size: 32, Ring: 1, Quota: 1, Mac: -1}},
		{true, api.Client{Base: 128, Size: 32, Ring: 1, Quota: 1, Channel: 256}},
		{true, api.Client{Base: 128, Size: 32, Ring: 1, Quota: 1, Channel: -1}},
		{false, api.Client{Base: 128, Size: 32, Ring: 1, Quota: 1, First: 512}}, // no sectors, at the disk's end
		{true, api.Client{Base: 128, Size: 32, Ring: 1, Quota: 1, First: 513}},
		{true, api.Client{Base: 128, Size: 32, Ring: 1, Quota: 1, First: -1}},
		{true, api.Client{Base: 128, Size: 32, Ring: 1, Quota: 1, First: 512, Sectors: 1}},
		{true, api.Client{Base: 128, Size: 32, Ring: 1, Quota: 1, First: 449, Sectors: 64}},
		{true, api.Client{Base: 128, Size: 32, Ring: 1, Quota: 1, Sectors: 65}},
		{true, api.Client{Base: 128, Size: 32, Ring: 1, Quota: 1, First: 5, Sectors: -1}},
		{true, api.Client{}},
	} {
		c := right(1)
		c.Slots[0].To = 80 // units for any quota
		c.Clients[0] = x.c
		if x.bad {
			if l := conf.Faults(c); len(l) == 0 || l[0] != fault(1, conf.BadClient) {
				t.Error(x.c, l)
			}
			continue
		}
		testFaults(t, c)
	}
}

// P15.1: each client that is bad is told once, whatever is wrong with it, by rows.
func TestBadClients(t *testing.T) {
	c := right(4)
	c.Clients[1] = api.Client{Size: -1, Mac: -1, Queue: 99}
	c.Clients[3].Base = api.Physical
	testFaults(t, c, fault(2, 2), fault(4, 2))
}

// P15.1: what two clients have both.
func TestShared(t *testing.T) {
	a := client(0)
	for _, x := range []struct {
		shared bool
		change func(b *api.Client)
	}{
		{false, func(b *api.Client) {}},
		{true, func(b *api.Client) { b.Mac = a.Mac }},
		{true, func(b *api.Client) { b.Channel = a.Channel }},
		{false, func(b *api.Client) { b.Mac, b.Channel = a.Channel, a.Mac }},
		{true, func(b *api.Client) { b.Base = a.Base }},
		{true, func(b *api.Client) { b.Base = a.Base + a.Size - 1 }},
		{false, func(b *api.Client) { b.Base = a.Base + a.Size }},
		{true, func(b *api.Client) { b.Base, b.Size = a.Base+40, 60 }},
		{true, func(b *api.Client) { b.First = a.First }},
		{true, func(b *api.Client) { b.First = a.First + a.Sectors - 1 }},
		{false, func(b *api.Client) { b.First = a.First + a.Sectors }},
		{true, func(b *api.Client) { b.First, b.Sectors = a.First+2, 1 }},
		{false, func(b *api.Client) { b.First, b.Sectors = a.First, 0 }},
		{false, func(b *api.Client) { b.First, b.Sectors = a.First+2, 0 }}, // no sector is in both
		{true, func(b *api.Client) { *b = a }},
	} {
		b := client(1)
		x.change(&b)
		for _, l := range [][]api.Client{{a, b}, {b, a}} {
			c := right(2)
			c.Clients = l
			if x.shared {
				testFaults(t, c, fault(2, 3)) // it is told of the one behind, and once
			} else {
				testFaults(t, c)
			}
		}
	}
}

// P15.1: a client shares with any one ahead of it; what is bad plays no part in that, on neither side.
func TestSharedOfMany(t *testing.T) {
	c := right(5)
	c.Clients[3].Mac = c.Clients[0].Mac
	c.Clients[4].Channel = c.Clients[2].Channel
	testFaults(t, c, fault(4, 3), fault(5, 3))
	c.Clients[0].Queue = -1
	testFaults(t, c, fault(1, 2), fault(5, 3))
	c.Clients[4].Queue = -1
	testFaults(t, c, fault(1, 2), fault(5, 2))

	c = right(8)
	for i := range c.Clients {
		c.Clients[i] = client(0)
	}
	testFaults(t, c, fault(2, 3), fault(3, 3), fault(4, 3), fault(5, 3), fault(6, 3), fault(7, 3), fault(8, 3))
	for i := range c.Clients {
		c.Clients[i].Size = 0
	}
	testFaults(t, c, fault(1, 2), fault(2, 2), fault(3, 2), fault(4, 2), fault(5, 2), fault(6, 2), fault(7, 2), fault(8, 2))
	for _, n := range extremes { // memory of any size that would go round
		c = right(3)
		c.Clients[0].Size, c.Clients[1].Base, c.Clients[2].First = n, n, n
		testFaults(t, c, fault(1, 2), fault(2, 2), fault(3, 2))
	}
}

// P15.1: whose windows may be, and where.
func TestBadWindow(t *testing.T) {
	for _, x := range []struct {
		bad bool
		w   api.Window
	}{
		{false, window(2, 30, 31)}, {false, window(2, 199, 200)}, {false, window(2, 30, 200)},
		{true, window(2, 199, 201)}, {true, window(2, 200, 201)}, {true, window(2, 300, 400)},
		{true, window(2, 50, 50)}, {true, window(2, 50, 49)}, {true, window(2, 0, 0)}, {true, window(2, -1, 0)}, {true, window(2, 201, 200)},
		{true, window(2, 30, math.MaxInt)}, {true, window(2, math.MinInt, -1)}, {true, window(2, math.MaxInt, math.MinInt)},
	} {
		c := right(2)
		c.Windows[2] = x.w
		if x.bad {
			testFaults(t, c, fault(3, 4))
		} else {
			testFaults(t, c)
		}
	}
	for _, owner := range append([]int{3, 8, 9, 256, 1 << 32, 1<<32 + 2}, extremes...) {
		c := right(2)
		c.Windows[2].Owner = owner
		testFaults(t, c, fault(3, 4), fault(2, 6))
		c.Windows[0].Owner = owner // two that may not be, of one owner
		testFaults(t, c, fault(1, 4), fault(3, 4), fault(3, 5), fault(0, 6), fault(2, 6))
	}
}

// P15.1: windows of one owner, and such at one time; a bad one ahead, or behind, counts as well.
func TestWindowMeets(t *testing.T) {
	for _, x := range []struct {
		meets bool
		w     api.Window
	}{
		{true, window(2, 29, 40)}, {false, window(2, 30, 40)}, {true, window(2, 3, 4)}, {false, window(2, 4, 20)}, {true, window(2, 4, 21)},
		{true, window(2, 0, 200)}, {true, window(2, 24, 26)},
	} {
		c := right(2)
		c.Windows[2] = x.w
		if x.meets {
			testFaults(t, c, fault(3, 5))
		} else {
			testFaults(t, c)
		}
		c.Windows[2], c.Windows[0] = c.Windows[0], c.Windows[2]
		l := conf.Faults(c)
		if conf.Check(c) == x.meets || len(l) > 0 && l[0].Why != conf.WindowMeets {
			t.Fatal(c, l)
		}
	}
	for _, x := range []struct {
		l    []api.Window
		want []api.Fault
	}{
		{[]api.Window{window(0, 0, 4), window(1, 20, 201), window(2, 190, 200)}, []api.Fault{fault(2, 4), fault(3, 5)}}, // it meets a bad one
		{[]api.Window{window(0, 0, 4), window(1, 190, 200), window(2, 150, 201)}, []api.Fault{fault(3, 4), fault(3, 5)}},
		{[]api.Window{window(0, 0, 4), window(1, 300, 400), window(2, 399, 402)}, []api.Fault{fault(2, 4), fault(3, 4), fault(3, 5)}},
		{[]api.Window{window(0, 0, 4), window(1, 20, 50), window(2, 40, 30)}, []api.Fault{fault(3, 4)}}, // what is no span meets none
		{[]api.Window{window(0, 0, 4), window(1, -1, 20), window(2, 10, 50)}, []api.Fault{fault(2, 4)}},
		{[]api.Window{window(0, 0, 4), window(1, 5, 6), window(2, 7, 8), window(1, 9, 10)}, []api.Fault{fault(4, 5)}},
		{[]api.Window{window(0, 0, 4), window(1, 5, 6), window(2, 7, 8), window(0, 9, 10)}, []api.Fault{fault(4, 5)}},
		{[]api.Window{window(0, 0, 4), window(1, 5, 6), window(2, 7, 8), window(2, 9, 9)}, []api.Fault{fault(4, 4), fault(4, 5)}},
		{[]api.Window{window(0, 0, 4), window(1, 9, 9), window(1, 5, 6), window(2, 7, 8)}, []api.Fault{fault(2, 4), fault(3, 5)}},
		{[]api.Window{window(0, 0, 4), window(1, 5, 8), window(2, 9, 10), window(7, 7, 8), window(7, 5, 6)}, []api.Fault{fault(4, 4), fault(5, 4), fault(4, 5), fault(5, 5)}},
	} {
		c := right(2)
		c.Windows = x.l
		testFaults(t, c, x.want...)
	}
}

// P15.1: who has no window; one that is bad is one.
func TestNoWindow(t *testing.T) {
	c := right(8)
	c.Windows = nil
	var want []api.Fault
	for owner := range 9 {
		want = append(want, fault(owner, 6))
	}
	testFaults(t, c, want...)
	for i := range 9 {
		c = right(8)
		c.Windows = slices.Delete(c.Windows, i, i+1)
		testFaults(t, c, fault(i, 6))
		c = right(8)
		c.Windows[i].To = 0
		testFaults(t, c, fault(i+1, 4))
	}
}

// P15.1: ticks of the first window of the owner 0, and of that alone.
func TestShortWindow(t *testing.T) {
	for n := 1; n <= 8; n++ {
		for ticks := 1; ticks < 20; ticks++ {
			c := right(n)
			c.Windows[0].To = ticks
			if ticks < 2*n {
				testFaults(t, c, fault(0, 7))
			} else {
				testFaults(t, c)
			}
		}
	}
	with := func(l ...api.Window) api.Config {
		return changed(2, func(c *api.Config) { c.Windows = append(l, c.Windows[1:]...) })
	}
	testFaults(t, with(window(0, 0, 3), window(0, 6, 20)), fault(2, 5), fault(0, 7))
	testFaults(t, with(window(0, 6, 20), window(0, 0, 3)), fault(2, 5))
	testFaults(t, with(window(0, 0, 0), window(0, 0, 3)), fault(1, 4), fault(2, 5)) // the first one is bad: nothing is said of others
	testFaults(t, with(window(0, 198, 201)), fault(1, 4))
	testFaults(t, with(window(0, math.MaxInt, math.MinInt)), fault(1, 4))
	c := right(2)
	c.Windows = slices.Concat(c.Windows[1:], []api.Window{window(0, 0, 3)}) // wherever its row is
	testFaults(t, c, fault(0, 7))
}

// P15.1: whose slots may be, and where, and of how many ticks.
func TestBadSlot(t *testing.T) {
	for _, x := range []struct {
		bad bool
		s   api.Slot
	}{
		{false, slot(2, 100, 104)}, {true, slot(2, 100, 103)}, {true, slot(2, 100, 101)}, {true, slot(2, 100, 100)}, {true, slot(2, 104, 100)},
		{false, slot(2, 196, 200)}, {true, slot(2, 197, 201)}, {true, slot(2, 196, 201)}, {true, slot(2, 200, 204)}, {true, slot(2, -4, 0)},
		{true, slot(0, 100, 104)}, {true, slot(3, 100, 104)}, {true, slot(9, 100, 104)}, {true, slot(-1, 100, 104)}, {true, slot(1<<32+1, 100, 104)},
		{true, slot(2, 100, math.MaxInt)}, {true, slot(2, math.MinInt, 50)}, {true, slot(2, math.MaxInt, math.MinInt)}, {true, slot(2, math.MinInt, math.MaxInt)},
		{true, slot(math.MinInt, 100, 104)}, {true, slot(math.MaxInt, 100, 104)}, {true, api.Slot{}},
	} {
		c := right(2)
		c.Slots = append(c.Slots, x.s)
		if x.bad {
			testFaults(t, c, fault(3, 8))
		} else {
			testFaults(t, c)
		}
	}
}

// P15.1: slots at one time, bad ones too; those of one owner may be many.
func TestSlotMeets(t *testing.T) {
	for _, x := range []struct {
		l    []api.Slot
		want []api.Fault
	}{
		{[]api.Slot{slot(1, 0, 4), slot(2, 4, 8), slot(1, 8, 12), slot(2, 50, 60)}, nil},
		{[]api.Slot{slot(1, 0, 4), slot(2, 4, 8), slot(1, 7, 12)}, []api.Fault{fault(3, 9)}},
		{[]api.Slot{slot(1, 0, 4), slot(2, 4, 8), slot(2, 4, 8)}, []api.Fault{fault(3, 9)}},
		{[]api.Slot{slot(1, 20, 24), slot(2, 23, 28), slot(2, 0, 200)}, []api.Fault{fault(2, 9), fault(3, 9)}},
		{[]api.Slot{slot(1, 0, 4), slot(2, 4, 8), slot(0, 10, 20), slot(1, 19, 23)}, []api.Fault{fault(3, 8), fault(4, 9)}},
		{[]api.Slot{slot(1, 0, 4), slot(2, 4, 8), slot(1, 190, 201), slot(1, 190, 194)}, []api.Fault{fault(3, 8), fault(4, 9)}},
		{[]api.Slot{slot(1, 0, 4), slot(2, 4, 8), slot(1, 10, 20), slot(1, 15, 16)}, []api.Fault{fault(4, 8), fault(4, 9)}},
		{[]api.Slot{slot(1, 0, 4), slot(2, 4, 8), slot(1, 20, 10), slot(1, 10, 20)}, []api.Fault{fault(3, 8)}}, // what is no span meets none
		{[]api.Slot{slot(1, 0, 4), slot(2, 4, 8), slot(1, 10, 20), slot(1, 20, 10)}, []api.Fault{fault(4, 8)}},
	} {
		c := right(2)
		c.Slots = x.l
		testFaults(t, c, x.want...)
	}
}

// P15.1: a quota is held against all units of the client's slots.
func TestBadQuota(t *testing.T) {
	for _, x := range []struct {
		l     []api.Slot
		units int
	}{
		{nil, 0},
		{[]api.Slot{slot(1, 0, 4)}, 1},
		{[]api.Slot{slot(1, 0, 7)}, 1},
		{[]api.Slot{slot(1, 0, 8)}, 2},
		{[]api.Slot{slot(1, 0, 7), slot(1, 7, 14)}, 2}, // slot by slot: three would be in all ticks
		{[]api.Slot{slot(1, 0, 7), slot(2, 7, 100), slot(1, 100, 115)}, 4},
		{[]api.Slot{slot(2, 0, 100)}, 0},
		{[]api.Slot{slot(1, 0, 100)}, 25},
	} {
		for quota := 1; quota <= 16; quota++ {
			c := changed(1, func(c *api.Config) {
				c.Clients = append(c.Clients, client(1))
				c.Windows = append(c.Windows, window(2, 50, 60))
				c.Windows[0].To = 4
				c.Slots = append(slices.Clone(x.l), slot(2, 150, 200))
				c.Clients[0].Quota = quota
			})
			if quota > x.units {
				testFaults(t, c, fault(1, 10))
			} else {
				testFaults(t, c)
			}
			if conf.Units(c, 1) != x.units {
				t.Fatal(x.l, conf.Units(c, 1))
			}
		}
	}
	c := right(3)
	c.Slots = nil
	testFaults(t, c, fault(1, 10), fault(2, 10), fault(3, 10))
	for _, quota := range append([]int{0, 17}, extremes...) { // one that may not be is held against them too
		c = right(1)
		c.Clients[0].Quota = quota
		want := []api.Fault{fault(1, 2)}
		if quota > 1 {
			want = append(want, fault(1, 10))
		}
		testFaults(t, c, want...)
	}
}

// P15.2: of whom, and of which slots.
func TestUnits(t *testing.T) {
	c := right(2)
	c.Slots = []api.Slot{
		slot(1, 0, 9), slot(2, 20, 32), slot(1, 50, 53), slot(1, 190, 201), slot(0, 60, 80), slot(3, 80, 100), slot(-1, 80, 100),
		slot(1, 100, 111), slot(2, 110, 118), slot(1, 30, 20), slot(1, math.MinInt, math.MaxInt), slot(math.MaxInt, 0, 100), slot(math.MinInt, 0, 100),
	}
	want := map[int]int{1: 4, 2: 5}
	for _, owner := range append([]int{0, 1, 2, 3, 4, 8, 9, 1<<32 + 1}, extremes...) {
		if n := conf.Units(c, owner); n != want[owner] {
			t.Error(owner, n)
		}
	}
	for _, change := range []func(c *api.Config){
		func(c *api.Config) { c.Frame = 0 },
		func(c *api.Config) { c.Frame = 4097 },
		func(c *api.Config) { c.Clients = nil },
		func(c *api.Config) { c.Clients = make([]api.Client, 9) },
		func(c *api.Config) { c.Windows = make([]api.Window, 10) },
		func(c *api.Config) { c.Slots = append(c.Slots, make([]api.Slot, 33)...) },
	} {
		x := copied(c)
		change(&x)
		for owner := -1; owner < 10; owner++ {
			if n := conf.Units(x, owner); n != 0 {
				t.Error(x, owner, n)
			}
		}
	}
	c.Clients[0], c.Windows = api.Client{}, nil // these play no part
	if n := conf.Units(c, 1); n != 4 {
		t.Error(n)
	}
}

// P15.2: each client's memory, whatever is wrong with the tables.
func TestRegions(t *testing.T) {
	for n := range 12 {
		c := api.Config{}
		for i := range n {
			c.Clients = append(c.Clients, api.Client{Base: 1000 - 7*i, Size: i * i, At: 5, First: 9})
		}
		l := conf.Regions(c)
		if len(l) != n {
			t.Fatal(n, l)
		}
		for i, r := range l {
			if r != (api.Region{Owner: i + 1, Base: 1000 - 7*i, Size: i * i}) {
				t.Fatal(i, r)
			}
		}
	}
	for _, a := range extremes {
		for _, b := range extremes {
			l := conf.Regions(api.Config{Clients: []api.Client{{Base: a, Size: b}}})
			if len(l) != 1 || l[0] != (api.Region{Owner: 1, Base: a, Size: b}) {
				t.Fatal(a, b, l)
			}
		}
	}
}

// P15.1: by Why, then by Row, however much is wrong.
func TestOrder(t *testing.T) {
	c := right(3)
	c.Clients[1].Base = 0
	c.Clients[2].Mac = c.Clients[0].Mac
	c.Clients[2].Quota = 3
	c.Windows = []api.Window{window(5, 10, 20), window(0, 0, 5), window(1, 4, 10), window(1, 300, 301)}
	c.Slots = []api.Slot{slot(1, 10, 12), slot(1, 11, 20), slot(3, 19, 23)}
	testFaults(t, c,
		fault(2, 2), fault(3, 3), fault(1, 4), fault(4, 4), fault(3, 5), fault(4, 5), fault(2, 6), fault(3, 6),
		fault(0, 7), fault(1, 8), fault(2, 9), fault(3, 9), fault(2, 10), fault(3, 10))
}

func TestExample(t *testing.T) {
	c := api.Config{
		Frame:   20,
		Windows: []api.Window{window(0, 0, 4), window(1, 4, 20)},
		Slots:   []api.Slot{slot(1, 4, 12)},
		Clients: []api.Client{{Base: 128, Size: 64, Ring: 4, Quota: 2}},
	}
	testFaults(t, c)
	if n := conf.Units(c, 1); n != 2 {
		t.Fatal(n)
	}
	c.Clients[0].Quota = 3
	testFaults(t, c, fault(1, conf.BadQuota))
}
