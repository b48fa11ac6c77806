package serve_test

import (
	"math"
	"slices"
	"strings"
	"testing"

	"campanile/api"
	"campanile/conf"
	"campanile/desc"
	"campanile/dma"
	"campanile/frame"
	"campanile/mem"
	"campanile/serve"
	"campanile/tone"
)

// The calls have just these signatures.
var (
	_ func(api.Config, *mem.Memory) (*serve.Devices, api.Errno)                                  = serve.New
	_ func(d *serve.Devices, tick, owner int, x api.Desc) api.Errno                              = (*serve.Devices).Start
	_ func(d *serve.Devices, tick, owner int, x api.Desc) (status, length int, marks []api.Mark) = (*serve.Devices).End
	_ func(d *serve.Devices, tick int, e api.Event) (owner, bit int, marks []api.Mark)           = (*serve.Devices).Come
	_ func(*serve.Devices, int) int                                                              = (*serve.Devices).Drops
	_ func(d *serve.Devices, owner, sector int) (string, api.Errno)                              = (*serve.Devices).Sector
	_ func(*serve.Devices) []dma.Record                                                          = (*serve.Devices).Records
	_ func(*serve.Devices, *mem.Memory) *serve.Devices                                           = (*serve.Devices).Fork
)

// extremes are numbers of which some go round if anything is added to them.
var extremes = []int{math.MinInt, math.MinInt + 1, math.MinInt32, -1, math.MaxInt32, math.MaxInt - 1, math.MaxInt}

// dice are numbers that come the same each time.
type dice uint32

// below is a number from 0 on, below n.
func (d *dice) below(n int) int {
	*d = *d*1664525 + 1013904223
	return int(uint32(*d)>>8) % n
}

// text is n drawn bytes.
func (d *dice) text(n int) string {
	out := make([]byte, n)
	for i := range out {
		out[i] = byte(d.below(256))
	}
	return string(out)
}

// tables are those of three clients: for the second one nothing can wait, and it has no sectors; the third one's memory
// is the last one that there is.
func tables() api.Config {
	return api.Config{
		Frame:   40,
		Windows: []api.Window{{Owner: 1, From: 6, To: 20}, {Owner: 0, From: 0, To: 6}, {Owner: 2, From: 30, To: 40}, {Owner: 3, From: 20, To: 30}},
		Slots:   []api.Slot{{Owner: 1, From: 0, To: 9}, {Owner: 2, From: 9, To: 13}, {Owner: 3, From: 20, To: 40}},
		Clients: []api.Client{
			{Base: 128, Size: 64, Ring: 4, At: 30, Quota: 2, Queue: 4, Mac: 0, Channel: 10, First: 60, Sectors: 4},
			{Base: 192, Size: 64, Ring: 2, At: 14, Quota: 1, Queue: 0, Mac: 2, Channel: 0, First: 64, Sectors: 0},
			{Base: 16384 - 100, Size: 100, Ring: 2, At: 14, Quota: 1, Queue: 2, Mac: 255, Channel: 255, First: 64, Sectors: 3},
		},
	}
}

// devices are those of the tables, and their memory.
func devices(t *testing.T) (*serve.Devices, *mem.Memory) {
	t.Helper()
	d := dice(9)
	m := mem.New(api.Physical)
	m.Put(0, d.text(api.Physical))
	v, e := serve.New(tables(), m)
	if e != api.OK || v == nil {
		t.Fatal(e)
	}
	return v, m
}

// all is a memory's bytes.
func all(t *testing.T, m *mem.Memory) string {
	t.Helper()
	s, e := m.Text(0, m.Size())
	if e != api.OK {
		t.Fatal(e)
	}
	return s
}

// starts asks for a unit's start that goes well.
func starts(t *testing.T, d *serve.Devices, tick, owner int, x api.Desc) {
	t.Helper()
	if e := d.Start(tick, owner, x); e != api.OK {
		t.Fatal(tick, owner, x, e)
	}
}

// ends asks for a unit's end that goes well.
func ends(t *testing.T, d *serve.Devices, tick, owner int, x api.Desc, n int, want ...api.Mark) {
	t.Helper()
	if s, k, l := d.End(tick, owner, x); s != api.Good || k != n || !slices.Equal(l, want) {
		t.Fatal(tick, owner, x, s, k, l, "not", n, want)
	}
}

// does is a unit that goes well, from its start to its end.
func does(t *testing.T, d *serve.Devices, tick, owner int, x api.Desc, n int, want ...api.Mark) {
	t.Helper()
	starts(t, d, tick, owner, x)
	ends(t, d, tick+3, owner, x, n, want...)
}

// wrong asks for a unit's end that does not go well.
func wrong(t *testing.T, d *serve.Devices, tick, owner int, x api.Desc) {
	t.Helper()
	if s, n, l := d.End(tick, owner, x); s != api.Wrong || n != 0 || len(l) != 0 {
		t.Fatal(tick, owner, x, s, n, l)
	}
}

// comes asks for what something that comes raises, and its marks.
func comes(t *testing.T, d *serve.Devices, tick int, e api.Event, owner, bit int, want ...api.Mark) {
	t.Helper()
	if o, b, l := d.Come(tick, e); o != owner || b != bit || !slices.Equal(l, want) {
		t.Fatal(tick, e, o, b, l, "not", owner, bit, want)
	}
}

// changed asks that a memory is as it was, but for some bytes.
func changed(t *testing.T, m *mem.Memory, was string, at int, s string) {
	t.Helper()
	if all(t, m) != was[:at]+s+was[at+len(s):] {
		t.Fatalf("not %q at %d: %v", s, at, mem.Diff(m, from(was)))
	}
}

// from is a memory of bytes.
func from(s string) *mem.Memory {
	m := mem.New(len(s))
	m.Put(0, s)
	return m
}

// sector asks for a sector's bytes.
func sector(t *testing.T, d *serve.Devices, owner, i int, want string) {
	t.Helper()
	if s, e := d.Sector(owner, i); e != api.OK || s != want {
		t.Fatalf("%d %d: %v %q, not %q", owner, i, e, s, want)
	}
}

func ask(w api.What, addr, n, arg int) api.Desc {
	return api.Desc{What: w, Addr: addr, Len: n, Arg: arg}
}

func byteOn(channel, b int) api.Event {
	return api.Event{Kind: api.Byte, Channel: channel, Byte: b}
}

func toneOn(channel, b int) api.Event {
	return api.Event{Kind: api.Tone, Channel: channel, Tones: tone.Tones(b)}
}

// letter is a frame that comes, and its bytes.
func letter(to, by int, data string) api.Event {
	return api.Event{Kind: api.Packet, Data: text(to, by, data)}
}

func text(to, by int, data string) string {
	s, e := frame.Print(frame.Frame{To: to, From: by, Data: data})
	if e != api.OK {
		panic("no frame")
	}
	return s
}

func dropped(tick, what int) api.Mark {
	return api.Mark{Tick: tick, Sort: api.Dropped, A: what}
}

var (
	zeroes = strings.Repeat("\x00", api.Sector)
	kinds  = []api.What{api.Say, api.Hear, api.Send, api.Take, api.Load, api.Store}
)

func TestNewErrors(t *testing.T) { // P28.1
	spoil := []func(c *api.Config){
		func(c *api.Config) { c.Frame = 39 },
		func(c *api.Config) { c.Frame = 0 },
		func(c *api.Config) { *c = api.Config{} },
		func(c *api.Config) { c.Clients = nil },
		func(c *api.Config) { c.Windows = nil },
		func(c *api.Config) { c.Slots = nil },
		func(c *api.Config) { c.Windows[1].To = 5 },
		func(c *api.Config) { c.Clients[0].Mac = 2 },
		func(c *api.Config) { c.Clients[0].Channel = 255 },
		func(c *api.Config) { c.Clients[2].Base++ },
		func(c *api.Config) { c.Clients[2].First-- },
		func(c *api.Config) { c.Clients[0].Quota = 3 },
		func(c *api.Config) { c.Clients[0].Queue = 17 },
		func(c *api.Config) { c.Clients[1].First = math.MaxInt },
		func(c *api.Config) { c.Slots[2].To = math.MaxInt },
	}
	for i, f := range spoil {
		c := tables()
		f(&c)
		if d, e := serve.New(c, mem.New(api.Physical)); conf.Check(c) || e != api.ErrFit || d != nil {
			t.Error(i, e)
		}
	}
}

func TestNew(t *testing.T) { // P28.1
	d, m := devices(t)
	for owner := range 5 {
		if d.Drops(owner) != 0 {
			t.Fatal(owner)
		}
	}
	for i := range 4 {
		sector(t, d, 1, i, zeroes)
	}
	if len(d.Records()) != 0 {
		t.Fatal(d.Records())
	}
	m.Put(128+5, "kept")
	does(t, d, 0, 1, ask(api.Say, 5, 4, 0), 4, api.Mark{Tick: 3, Sort: api.Said, Data: "kept"})
}

func TestTablesAreNotKept(t *testing.T) { // P3
	c := tables()
	d, e := serve.New(c, mem.New(api.Physical))
	if e != api.OK {
		t.Fatal(e)
	}
	for i := range c.Clients {
		c.Clients[i] = api.Client{Mac: 77, Channel: 78}
	}
	does(t, d, 0, 3, ask(api.Send, 0, 2, 9), 2, api.Mark{Tick: 3, Sort: api.Sent, Data: text(9, 255, "\x00\x00")})
	comes(t, d, 4, byteOn(10, 1), 1, api.Heard)
	comes(t, d, 4, byteOn(78, 1), 0, 0)
	comes(t, d, 4, letter(0, 1, ""), 1, api.Came)
	comes(t, d, 4, letter(77, 1, ""), 0, 0)
}

// P28.1: at the start nothing is done but for Load and Store; what is then in the memory plays no part.
func TestStartOfOthers(t *testing.T) {
	d, m := devices(t)
	was := all(t, m)
	comes(t, d, 0, byteOn(10, 65), 1, api.Heard)
	comes(t, d, 0, letter(0, 1, "frame"), 1, api.Came)
	for _, w := range []api.What{api.Say, api.Hear, api.Send, api.Take} {
		for range 3 {
			starts(t, d, 1, 1, ask(w, 0, 8, 3))
		}
	}
	if all(t, m) != was || len(d.Records()) != 0 {
		t.Fatal("something was done")
	}
	starts(t, d, 1, 3, ask(api.Load, 0, 16, 0)) // so the disk is free
	m.Put(128, "later")
	ends(t, d, 4, 1, ask(api.Say, 0, 5, 0), 5, api.Mark{Tick: 4, Sort: api.Said, Data: "later"})
	ends(t, d, 4, 1, ask(api.Hear, 0, 5, 0), 1)
	ends(t, d, 4, 1, ask(api.Take, 1, 5, 0), 5)
	changed(t, m, was, 128, "Aframe")
}

func TestSay(t *testing.T) { // P28.1
	d, m := devices(t)
	was := all(t, m)
	for owner, c := range tables().Clients {
		for _, n := range []int{0, 1, 2, 31, 32} {
			for _, at := range []int{0, 1, c.Size - n} {
				data := was[c.Base+at : c.Base+at+n]
				does(t, d, 10, owner+1, ask(api.Say, at, n, 65535), n, api.Mark{Tick: 13, Sort: api.Said, Data: data})
			}
		}
	}
	if all(t, m) != was || len(d.Records()) != 0 {
		t.Fatal("nothing is written")
	}
}

func TestHear(t *testing.T) { // P28.1
	d, m := devices(t)
	was := all(t, m)
	does(t, d, 0, 1, ask(api.Hear, 9, 4, 0), 0)
	changed(t, m, was, 0, "")
	for _, b := range []int{65, 66, 256 + 67, -188} { // the last one is a D
		comes(t, d, 1, byteOn(10, b), 1, api.Heard)
	}
	does(t, d, 4, 1, ask(api.Hear, 9, 0, 0), 0)
	changed(t, m, was, 0, "")
	does(t, d, 8, 1, ask(api.Hear, 9, 1, 0), 1)
	changed(t, m, was, 128+9, "A")
	does(t, d, 12, 1, ask(api.Hear, 62, 2, 0), 2)
	does(t, d, 16, 1, ask(api.Hear, 20, 32, 0), 1)
	does(t, d, 20, 1, ask(api.Hear, 20, 32, 0), 0)
	want := []byte(was)
	copy(want[128+9:], "A")
	copy(want[128+20:], "D")
	copy(want[128+62:], "BC")
	if all(t, m) != string(want) || len(d.Records()) != 0 {
		t.Fatal("memory")
	}
}

func TestSend(t *testing.T) { // P28.1
	d, m := devices(t)
	was := all(t, m)
	for owner, c := range tables().Clients {
		for _, n := range []int{0, 1, 31, 32} {
			for _, to := range []int{0, 1, 2, 254, 255} {
				data := was[c.Base+c.Size-n : c.Base+c.Size]
				does(t, d, 10, owner+1, ask(api.Send, c.Size-n, n, to), n, api.Mark{Tick: 13, Sort: api.Sent, Data: text(to, c.Mac, data)})
			}
		}
	}
	if all(t, m) != was || len(d.Records()) != 0 {
		t.Fatal("nothing is written")
	}
	does(t, d, 0, 1, ask(api.Take, 0, 32, 0), 0) // what goes does not come
}

func TestTake(t *testing.T) { // P28.1
	d, m := devices(t)
	was := all(t, m)
	does(t, d, 0, 1, ask(api.Take, 9, 4, 0), 0)
	for _, s := range []string{"first", "second", "", "fourth"} {
		comes(t, d, 1, letter(0, 44, s), 1, api.Came)
	}
	changed(t, m, was, 0, "")
	does(t, d, 4, 1, ask(api.Take, 10, 3, 0), 3) // the rest is lost
	changed(t, m, was, 138, "fir")
	does(t, d, 8, 1, ask(api.Take, 10, 6, 0), 6)
	changed(t, m, was, 138, "second")
	does(t, d, 12, 1, ask(api.Take, 10, 32, 0), 0) // that without bytes goes, too
	does(t, d, 12, 1, ask(api.Take, 10, 0, 0), 0)  // and that of which none are asked for
	changed(t, m, was, 138, "second")
	does(t, d, 12, 1, ask(api.Take, 10, 32, 0), 0)
	comes(t, d, 13, letter(0, 44, "12345678901234567890123456789012"), 1, api.Came)
	does(t, d, 16, 1, ask(api.Take, 32, 32, 0), 32)
	if s, _ := m.Text(128+32, 32); s != "12345678901234567890123456789012" || len(d.Records()) != 0 {
		t.Fatal(s)
	}
}

// P28.1: what is stored is what stood there at the start, and what is loaded is written at the end.
func TestStoreAndLoad(t *testing.T) {
	d, m := devices(t)
	one, two := "sixteen bytes ..", "and other ones !"
	m.Put(128+3, one+two)
	was := all(t, m)
	x := ask(api.Store, 3, 32, 2)
	starts(t, d, 5, 1, x)
	m.Put(128+3, "these come too late")
	sector(t, d, 1, 2, zeroes)
	ends(t, d, 8, 1, x, 32, api.Mark{Tick: 8, Sort: api.Stored, A: 2, Data: one}, api.Mark{Tick: 8, Sort: api.Stored, A: 3, Data: two})
	sector(t, d, 1, 2, one)
	sector(t, d, 1, 3, two)
	sector(t, d, 1, 1, zeroes)
	changed(t, m, was, 128+3, "these come too late")

	m.Put(0, was)
	x = ask(api.Load, 48, 16, 3)
	starts(t, d, 9, 1, x)
	changed(t, m, was, 0, "")
	ends(t, d, 12, 1, x, 16)
	changed(t, m, was, 128+48, two)
	m.Put(0, was)
	does(t, d, 13, 1, ask(api.Load, 0, 32, 1), 32)
	changed(t, m, was, 128, zeroes+one)
	m.Put(0, was)
	does(t, d, 17, 3, ask(api.Store, 84, 16, 0), 16, api.Mark{Tick: 20, Sort: api.Stored, A: 0, Data: was[api.Physical-16:]})
	sector(t, d, 3, 0, was[api.Physical-16:])
	sector(t, d, 1, 3, two)
	if len(d.Records()) != 0 {
		t.Fatal(d.Records())
	}
}

func TestStartErrors(t *testing.T) { // P28.1
	for _, c := range []struct {
		tick, owner int
		x           api.Desc
		e           api.Errno
	}{
		{0, 1, ask(api.Load, 0, 16, 4), api.ErrRange},
		{0, 1, ask(api.Load, 0, 32, 3), api.ErrRange},
		{0, 1, ask(api.Load, 0, 16, -1), api.ErrRange},
		{0, 1, ask(api.Load, 0, 16, math.MaxInt), api.ErrRange},
		{0, 1, ask(api.Load, 0, 0, 0), api.ErrForm},
		{0, 1, ask(api.Load, 0, 17, 0), api.ErrForm},
		{0, 1, ask(api.Load, 0, 48, 0), api.ErrLimit},
		{0, 2, ask(api.Load, 0, 16, 0), api.ErrRange},
		{0, 4, ask(api.Load, 0, 16, 0), api.ErrOwner},
		{0, 0, ask(api.Load, 0, 16, 0), api.ErrOwner},
		{-1, 1, ask(api.Load, 0, 16, 9), api.ErrArg},
		{math.MaxInt32 + 1, 1, ask(api.Load, 0, 16, 0), api.ErrArg},
		{0, 1, ask(api.Store, 0, 16, 4), api.ErrRange},
		{0, 1, ask(api.Store, 0, 17, 0), api.ErrForm},
		{0, 1, ask(api.Store, 0, 48, 0), api.ErrLimit},
		{0, 1, ask(api.Store, 49, 16, 0), api.ErrRange},
		{0, 1, ask(api.Store, -1, 16, 0), api.ErrRange},
		{0, 1, ask(api.Store, math.MaxInt, 16, 0), api.ErrRange},
		{0, 1, ask(api.Store, 0, -16, 0), api.ErrArg},
		{0, 2, ask(api.Store, 0, 16, 0), api.ErrRange},
		{0, 4, ask(api.Store, 0, 16, 0), api.ErrOwner},
		{-1, 1, ask(api.Store, 0, 16, 0), api.ErrArg},
		{-1, 1, ask(api.Store, 49, 16, 0), api.ErrRange}, // it is read first of all
	} {
		d, m := devices(t)
		was := all(t, m)
		if e := d.Start(c.tick, c.owner, c.x); e != c.e {
			t.Fatal(c, e)
		}
		wrong(t, d, 9, c.owner, c.x) // there is no job
		if all(t, m) != was {
			t.Fatal(c, "memory")
		}
		does(t, d, 9, 3, ask(api.Load, 0, 16, 0), 16) // and the disk is free
	}
}

// P28.1: the disk has one job at a time, which takes its ticks.
func TestBusy(t *testing.T) {
	d, m := devices(t)
	was := all(t, m)
	mine, other := ask(api.Store, 0, 16, 1), ask(api.Load, 0, 16, 0)
	wrong(t, d, 10, 1, mine)
	wrong(t, d, 10, 1, other)
	starts(t, d, 10, 1, mine)
	for _, x := range []api.Desc{mine, other} {
		for owner := 1; owner <= 3; owner += 2 {
			if e := d.Start(10, owner, x); e != api.ErrState {
				t.Fatal(owner, x, e)
			}
		}
	}
	for _, tick := range []int{math.MinInt, -1, 9, 10, 12} {
		wrong(t, d, tick, 1, mine)
	}
	sector(t, d, 1, 1, zeroes)
	ends(t, d, 13, 1, mine, 16, api.Mark{Tick: 13, Sort: api.Stored, A: 1, Data: was[128:144]})
	wrong(t, d, 13, 1, mine)
	starts(t, d, 13, 3, other)
	ends(t, d, math.MaxInt, 3, other, 16)
	changed(t, m, was, api.Physical-100, zeroes)
}

// P28.3: a job that is another one's, or for something else, is not ended.
func TestJobOfAnother(t *testing.T) {
	d, m := devices(t)
	was := all(t, m)
	mine := ask(api.Store, 0, 16, 0)
	starts(t, d, 10, 1, mine)
	wrong(t, d, 13, 3, mine)
	wrong(t, d, 13, 3, ask(api.Load, 0, 16, 0))
	wrong(t, d, 13, 1, ask(api.Load, 0, 16, 0))
	wrong(t, d, 13, 1, ask(api.Store, 0, 16, 1))
	wrong(t, d, 13, 1, ask(api.Store, 0, 32, 0))
	sector(t, d, 1, 0, zeroes)
	ends(t, d, 13, 1, mine, 16, api.Mark{Tick: 13, Sort: api.Stored, A: 0, Data: was[128:144]})
	sector(t, d, 3, 0, zeroes)

	mine = ask(api.Load, 0, 16, 0)
	starts(t, d, 20, 1, mine)
	wrong(t, d, 23, 3, mine)
	wrong(t, d, 23, 3, ask(api.Store, 0, 16, 0))
	changed(t, m, was, 0, "")
	ends(t, d, 23, 1, mine, 16)
	sector(t, d, 3, 0, zeroes)
}

// P28.1, P2: what has an error is Wrong, has no marks, and changes nothing but what the engine has put down.
func TestWrong(t *testing.T) {
	type row struct {
		owner   int
		x       api.Desc
		refused bool
		record  dma.Record
	}
	rows := []row{
		{1, ask(api.Say, 61, 4, 0), true, dma.Record{N: 4, Err: api.ErrRange}},
		{1, ask(api.Say, 0, 33, 0), true, dma.Record{N: 33, Err: api.ErrLimit}},
		{1, ask(api.Say, -1, 1, 0), true, dma.Record{N: 1, Err: api.ErrRange}},
		{1, ask(api.Say, 0, -1, 0), true, dma.Record{N: -1, Err: api.ErrArg}},
		{1, ask(api.Say, math.MaxInt, 1, 0), true, dma.Record{N: 1, Err: api.ErrRange}},
		{1, ask(api.Say, math.MinInt, math.MinInt, 0), true, dma.Record{N: math.MinInt, Err: api.ErrArg}},
		{4, ask(api.Say, 0, 1, 0), true, dma.Record{N: 1, Err: api.ErrOwner}},
		{0, ask(api.Say, 0, 0, 0), true, dma.Record{Err: api.ErrOwner}},
		{1, ask(api.Send, 61, 4, 2), true, dma.Record{N: 4, Err: api.ErrRange}},
		{1, ask(api.Send, 65, 0, 2), true, dma.Record{Err: api.ErrRange}},
		{1, ask(api.Send, 0, 4, 256), false, dma.Record{}},
		{1, ask(api.Send, 0, 4, -1), false, dma.Record{}},
		{1, ask(api.Send, 0, 4, math.MaxInt), false, dma.Record{}},
		{-1, ask(api.Send, 0, 4, 1), true, dma.Record{N: 4, Err: api.ErrOwner}},
		{1, ask(api.Hear, 63, 2, 0), true, dma.Record{N: 2, Write: true, Err: api.ErrRange}},
		{1, ask(api.Hear, 62, 32, 0), true, dma.Record{N: 3, Write: true, Err: api.ErrRange}},
		{1, ask(api.Hear, -1, 1, 0), true, dma.Record{N: 1, Write: true, Err: api.ErrRange}},
		{1, ask(api.Hear, math.MaxInt, 1, 0), true, dma.Record{N: 1, Write: true, Err: api.ErrRange}},
		{4, ask(api.Hear, 0, 4, 0), false, dma.Record{}},
		{1, ask(api.Take, 60, 5, 0), true, dma.Record{N: 5, Write: true, Err: api.ErrRange}},
		{1, ask(api.Take, 60, 32, 0), true, dma.Record{N: 6, Write: true, Err: api.ErrRange}},
		{1, ask(api.Take, -1, 1, 0), true, dma.Record{N: 1, Write: true, Err: api.ErrRange}},
		{4, ask(api.Take, 0, 4, 0), true, dma.Record{Write: true, Err: api.ErrOwner}},
	}
	for _, w := range []api.What{api.NoWhat, 7, 8, 255} {
		rows = append(rows, row{1, ask(w, 0, 16, 1), false, dma.Record{}})
	}
	for _, r := range rows {
		d, m := devices(t)
		was := all(t, m)
		for i, s := range []string{"first!", "second", "third"} {
			comes(t, d, 0, byteOn(10, 65+i), 1, api.Heard)
			comes(t, d, 0, letter(0, 9, s), 1, api.Came)
		}
		wrong(t, d, 5, r.owner, r.x)
		changed(t, m, was, 0, "")
		r.record.Tick, r.record.Owner, r.record.Addr = 5, r.owner, r.x.Addr
		if l := d.Records(); r.refused && !slices.Equal(l, []dma.Record{r.record}) || !r.refused && len(l) != 0 {
			t.Fatal(r, l)
		}
		if d.Drops(1) != 0 {
			t.Fatal(r, "drops")
		}
		ends(t, d, 6, 1, ask(api.Hear, 0, 2, 0), 2) // all waits on, in its order
		ends(t, d, 6, 1, ask(api.Hear, 2, 9, 0), 1)
		for i, s := range []string{"first!", "second", "third"} {
			ends(t, d, 6, 1, ask(api.Take, 3+6*i, 6, 0), len(s))
		}
		ends(t, d, 6, 1, ask(api.Take, 30, 6, 0), 0)
		changed(t, m, was, 128, "ABCfirst!secondthird")
	}
}

// P28.1: what is loaded and can't go to the memory is Wrong, but the job is over.
func TestLoadThatCantGo(t *testing.T) {
	d, m := devices(t)
	was := all(t, m)
	x := ask(api.Load, 49, 16, 0)
	starts(t, d, 0, 1, x)
	wrong(t, d, 3, 1, x)
	changed(t, m, was, 0, "")
	if l := d.Records(); !slices.Equal(l, []dma.Record{{Tick: 3, Owner: 1, Addr: 49, N: 16, Write: true, Err: api.ErrRange}}) {
		t.Fatal(l)
	}
	does(t, d, 4, 3, ask(api.Load, 0, 16, 0), 16)
}

// P28.1: devices are there whatever the memory is; what is not there of it has an error.
func TestSmallMemory(t *testing.T) {
	for _, m := range []*mem.Memory{nil, mem.New(0), mem.New(128 + 20)} {
		d, e := serve.New(tables(), m)
		if e != api.OK {
			t.Fatal(e)
		}
		want := api.ErrRange
		if m == nil {
			want = api.ErrNil
		}
		comes(t, d, 0, byteOn(10, 65), 1, api.Heard)
		comes(t, d, 0, byteOn(10, 66), 1, api.Heard)
		comes(t, d, 0, letter(0, 1, "xyz"), 1, api.Came)
		var refused []dma.Record
		for _, w := range []api.What{api.Say, api.Hear, api.Send, api.Take} {
			wrong(t, d, 3, 1, ask(w, 40, 2, 0))
			refused = append(refused, dma.Record{Tick: 3, Owner: 1, Addr: 40, N: 2, Write: desc.Fills(w), Err: want})
		}
		if e := d.Start(4, 1, ask(api.Store, 40, 16, 0)); e != want {
			t.Fatal(e)
		}
		refused = append(refused, dma.Record{Tick: 4, Owner: 1, Addr: 40, N: 16, Err: want})
		starts(t, d, 4, 1, ask(api.Load, 40, 16, 0))
		wrong(t, d, 7, 1, ask(api.Load, 40, 16, 0))
		refused = append(refused, dma.Record{Tick: 7, Owner: 1, Addr: 40, N: 16, Write: true, Err: want})
		if l := d.Records(); !slices.Equal(l, refused) {
			t.Fatal(l, refused)
		}
		whole := mem.New(api.Physical)
		d = d.Fork(whole) // what waited waits on
		ends(t, d, 8, 1, ask(api.Hear, 40, 2, 0), 2)
		ends(t, d, 8, 1, ask(api.Take, 42, 2, 0), 2)
		if s, _ := whole.Text(168, 5); s != "ABxy\x00" {
			t.Fatal(s)
		}
	}
}

func TestComeOfBytes(t *testing.T) { // P28.2
	d, m := devices(t)
	was := all(t, m)
	tick := -5
	for i := range 4 {
		comes(t, d, tick, byteOn(10, 65+i), 1, api.Heard)
	}
	for i := range 3 {
		comes(t, d, tick+i, byteOn(10, 80), 1, 0, dropped(tick+i, 1))
	}
	comes(t, d, 9, byteOn(0, 80), 2, 0, dropped(9, 1)) // where there is never room
	comes(t, d, 9, byteOn(255, 1<<40+97), 3, api.Heard)
	comes(t, d, 9, byteOn(255, math.MinInt+98), 3, api.Heard)
	comes(t, d, 9, byteOn(255, 99), 3, 0, dropped(9, 1))
	for _, channel := range append([]int{1, 9, 11, 254, 256, 266}, extremes...) {
		comes(t, d, 9, byteOn(channel, 65), 0, 0)
	}
	for owner, n := range []int{0, 3, 1, 1, 0} {
		if d.Drops(owner) != n {
			t.Fatal(owner, d.Drops(owner))
		}
	}
	changed(t, m, was, 0, "")
	ends(t, d, 9, 1, ask(api.Hear, 0, 32, 0), 4)
	changed(t, m, was, 128, "ABCD")
	ends(t, d, 9, 3, ask(api.Hear, 0, 32, 0), 2)
	ends(t, d, 9, 2, ask(api.Hear, 0, 32, 0), 0)
	if s, _ := m.Text(api.Physical-100, 3); s != "ab"+was[api.Physical-98:][:1] {
		t.Fatal(s)
	}
	comes(t, d, 10, byteOn(10, 1), 1, api.Heard) // there is room again
}

func TestComeOfTones(t *testing.T) { // P28.2
	d, m := devices(t)
	was := all(t, m)
	none := []complex128{0, 1, 1i, complex(math.NaN(), 1), complex(1, math.NaN()), complex(0, math.Inf(1))}
	silent := func(channel int) {
		t.Helper()
		owner := map[int]int{10: 1, 0: 2, 255: 3}[channel]
		for i := range 4 {
			for _, z := range none {
				e := toneOn(channel, 65)
				e.Tones[i] = z
				comes(t, d, 7, e, owner, 0)
			}
		}
		comes(t, d, 7, api.Event{Kind: api.Tone, Channel: channel}, owner, 0)
	}
	silent(10)
	for _, b := range []int{65, 0, 255, 27} {
		comes(t, d, 7, toneOn(10, b), 1, api.Heard)
	}
	silent(10) // there is no room, but nothing is dropped
	silent(0)
	silent(255)
	silent(77)
	if d.Drops(1)+d.Drops(2)+d.Drops(3) != 0 {
		t.Fatal("drops")
	}
	comes(t, d, 7, toneOn(10, 65), 1, 0, dropped(7, 1))
	comes(t, d, 8, toneOn(0, 65), 2, 0, dropped(8, 1))
	comes(t, d, 8, toneOn(78, 65), 0, 0)
	if d.Drops(1) != 1 || d.Drops(2) != 1 || d.Drops(3) != 0 {
		t.Fatal("drops")
	}
	ends(t, d, 9, 1, ask(api.Hear, 0, 32, 0), 4)
	changed(t, m, was, 128, "A\x00\xff\x1b")
	ends(t, d, 9, 3, ask(api.Hear, 0, 32, 0), 0)
}

func TestComeOfFrames(t *testing.T) { // P28.2
	d, m := devices(t)
	was := all(t, m)
	comes(t, d, 3, letter(255, 7, "one"), 3, api.Came)
	comes(t, d, 3, letter(255, 255, "two"), 3, api.Came)
	comes(t, d, 4, letter(255, 7, "three"), 3, 0, dropped(4, 2))
	comes(t, d, 4, letter(2, 7, ""), 2, 0, dropped(4, 2)) // where there is never room
	comes(t, d, 4, letter(0, 7, ""), 1, api.Came)         // the address 0 is somebody's
	comes(t, d, 4, letter(1, 7, "nobody's"), 0, 0)
	good := text(255, 7, "one")
	for _, s := range []string{"", "\x00", "\xff\x00", good[:7], good + "x", good[:7] + "?", "\x00\x00\x00\x00\x00", strings.Repeat("\xff", 40), strings.Repeat("\x00", 4096)} {
		if _, e := frame.Parse(s); e == api.OK {
			t.Fatalf("%q is a frame's", s)
		}
		comes(t, d, 5, api.Event{Kind: api.Packet, Data: s}, 0, 0)
	}
	for owner, n := range []int{0, 0, 1, 1, 0} {
		if d.Drops(owner) != n {
			t.Fatal(owner, d.Drops(owner))
		}
	}
	changed(t, m, was, 0, "")
	ends(t, d, 6, 3, ask(api.Take, 0, 32, 0), 3)
	ends(t, d, 6, 3, ask(api.Take, 3, 32, 0), 3)
	ends(t, d, 6, 3, ask(api.Take, 6, 32, 0), 0)
	changed(t, m, was, api.Physical-100, "onetwo")
	comes(t, d, 7, letter(255, 7, "again"), 3, api.Came)
}

// P28.2: what is of no kind, and all that another kind is of, plays no part.
func TestComeOfKinds(t *testing.T) {
	d, m := devices(t)
	was := all(t, m)
	e := api.Event{Channel: 10, Byte: 65, Tones: tone.Tones(66), Data: text(255, 7, "frame")}
	for _, k := range []api.Kind{api.NoKind, 4, 5, 255} {
		e.Kind = k
		comes(t, d, 1, e, 0, 0)
	}
	e.Kind = api.Byte
	comes(t, d, 1, e, 1, api.Heard)
	e.Kind = api.Tone
	comes(t, d, 1, e, 1, api.Heard)
	e.Kind = api.Packet
	comes(t, d, 1, e, 3, api.Came)
	ends(t, d, 1, 1, ask(api.Hear, 0, 9, 0), 2)
	changed(t, m, was, 128, "AB")
	ends(t, d, 1, 1, ask(api.Take, 0, 9, 0), 0)
	ends(t, d, 1, 3, ask(api.Hear, 0, 9, 0), 0)
	ends(t, d, 1, 3, ask(api.Take, 0, 9, 0), 5)
}

// P28.2: bytes and frames are counted together.
func TestDrops(t *testing.T) {
	d, _ := devices(t)
	for i := range 10 {
		comes(t, d, i, byteOn(0, i), 2, 0, dropped(i, 1))
		comes(t, d, i, letter(2, 0, ""), 2, 0, dropped(i, 2))
		comes(t, d, i, toneOn(0, i), 2, 0, dropped(i, 1))
		if d.Drops(2) != 3*i+3 || d.Drops(1) != 0 || d.Drops(3) != 0 {
			t.Fatal(i, d.Drops(2))
		}
	}
	for _, owner := range append([]int{0, 4, 8, 9, 1<<32 + 2}, extremes...) {
		if d.Drops(owner) != 0 {
			t.Fatal(owner)
		}
	}
}

func TestSector(t *testing.T) { // P28.2
	d, _ := devices(t)
	for _, c := range []struct {
		owner, sector int
		e             api.Errno
	}{
		{1, 0, api.OK}, {1, 3, api.OK}, {1, 4, api.ErrRange}, {1, -1, api.ErrRange}, {1, math.MaxInt, api.ErrRange}, {1, math.MinInt, api.ErrRange},
		{2, 0, api.ErrRange}, {3, 2, api.OK}, {3, 3, api.ErrRange},
		{0, 0, api.ErrOwner}, {4, 0, api.ErrOwner}, {9, 99, api.ErrOwner}, {-1, -1, api.ErrOwner}, {math.MaxInt, 0, api.ErrOwner},
	} {
		s, e := d.Sector(c.owner, c.sector)
		if e != c.e || e == api.OK && s != zeroes || e != api.OK && s != "" {
			t.Error(c, s, e)
		}
	}
}

func TestRecords(t *testing.T) { // P28.2, P3
	d, _ := devices(t)
	wrong(t, d, 1, 1, ask(api.Say, 64, 1, 0))
	wrong(t, d, 2, 2, ask(api.Say, 65, 0, 0))
	l := d.Records()
	want := []dma.Record{{Tick: 1, Owner: 1, Addr: 64, N: 1, Err: api.ErrRange}, {Tick: 2, Owner: 2, Addr: 65, Err: api.ErrRange}}
	if !slices.Equal(l, want) {
		t.Fatal(l)
	}
	l[0] = dma.Record{}
	if !slices.Equal(d.Records(), want) {
		t.Fatal("it lies in what is kept")
	}
}

// state is what can be told of devices without changing them: their forks tell what waits.
func state(t *testing.T, d *serve.Devices) string {
	t.Helper()
	var out []string
	for i := range tables().Clients {
		owner := i + 1
		for k := range 4 {
			s, _ := d.Sector(owner, k)
			out = append(out, s)
		}
		out = append(out, string([]byte{byte(d.Drops(owner))}))
		m := mem.New(api.Physical)
		f := d.Fork(m)
		_, n, _ := f.End(0, owner, ask(api.Hear, 0, 32, 0))
		s, _ := m.Text(tables().Clients[i].Base, n)
		out = append(out, s)
		for range 5 {
			_, n, _ := f.End(0, owner, ask(api.Take, 0, 32, 0))
			s, _ := m.Text(tables().Clients[i].Base, n)
			out = append(out, s)
		}
	}
	return strings.Join(out, "|")
}

func TestFork(t *testing.T) { // P28.2, P4
	d, m := devices(t)
	comes(t, d, 0, byteOn(10, 65), 1, api.Heard)
	comes(t, d, 0, letter(0, 3, "one"), 1, api.Came)
	comes(t, d, 0, byteOn(0, 65), 2, 0, dropped(0, 1))
	wrong(t, d, 0, 1, ask(api.Say, 64, 1, 0))
	store := ask(api.Store, 0, 16, 0)
	starts(t, d, 0, 1, store)
	was, told, records := all(t, m), state(t, d), d.Records()

	k := from(was)
	f := d.Fork(k)
	if state(t, f) != told || !slices.Equal(f.Records(), records) {
		t.Fatal("not alike")
	}
	ends(t, f, 3, 1, store, 16, api.Mark{Tick: 3, Sort: api.Stored, Data: was[128:144]}) // its job is there, too
	ends(t, f, 3, 1, ask(api.Hear, 0, 4, 0), 1)
	ends(t, f, 3, 1, ask(api.Take, 1, 4, 0), 3)
	comes(t, f, 3, byteOn(255, 66), 3, api.Heard)
	comes(t, f, 3, letter(2, 3, "one"), 2, 0, dropped(3, 2))
	wrong(t, f, 3, 1, ask(api.Say, 65, 1, 0))
	if all(t, m) != was || state(t, d) != told || !slices.Equal(d.Records(), records) {
		t.Fatal("the fork is not by itself")
	}
	changed(t, k, was, 128, "Aone")
	then, forked := all(t, k), state(t, f)
	m.Put(128, "other bytes, but")
	ends(t, d, 3, 1, store, 16, api.Mark{Tick: 3, Sort: api.Stored, Data: was[128:144]})
	ends(t, d, 3, 1, ask(api.Take, 20, 4, 0), 3)
	comes(t, d, 3, byteOn(10, 67), 1, api.Heard)
	does(t, d, 4, 3, ask(api.Store, 0, 16, 1), 16, api.Mark{Tick: 7, Sort: api.Stored, A: 1, Data: was[api.Physical-100:][:16]})
	if all(t, k) != then || state(t, f) != forked || len(f.Records()) != 2 || len(d.Records()) != 1 {
		t.Fatal("nor is what was forked")
	}
}

func TestNil(t *testing.T) { // P28.2
	var d *serve.Devices
	for _, w := range append([]api.What{api.NoWhat, 7}, kinds...) {
		if e := d.Start(0, 1, ask(w, 0, 16, 0)); e != api.ErrNil {
			t.Fatal(w, e)
		}
		wrong(t, d, 3, 1, ask(w, 0, 16, 0))
	}
	for _, e := range []api.Event{{}, byteOn(10, 1), toneOn(10, 1), letter(0, 1, "")} {
		comes(t, d, 0, e, 0, 0)
	}
	if s, e := d.Sector(1, 0); s != "" || e != api.ErrNil {
		t.Fatal(s, e)
	}
	if d.Drops(1) != 0 || len(d.Records()) != 0 || d.Fork(mem.New(9)) != nil || d.Fork(nil) != nil {
		t.Fatal("nil")
	}
}

func TestOfOneThatNoCallMade(t *testing.T) { // P1: it does not panic
	for _, d := range []*serve.Devices{{}, new(serve.Devices).Fork(mem.New(200))} {
		for w := range api.What(9) {
			for _, owner := range []int{0, 1, 9} {
				d.Start(0, owner, ask(w, 0, 16, 0))
				d.End(3, owner, ask(w, 0, 16, 0))
			}
		}
		for _, e := range []api.Event{{}, byteOn(0, 1), toneOn(0, 1), letter(0, 1, "")} {
			d.Come(0, e)
		}
		d.Drops(1)
		d.Sector(1, 0)
		d.Records()
	}
}

// P1: no call panics, and none changes what lies outside the clients' memories, whatever it is given.
func TestOfAnyNumbers(t *testing.T) {
	d, m := devices(t)
	was := all(t, m)
	numbers := append([]int{0, 1, 2, 3, 16, 32, 64, 255, 256}, extremes...)
	dice := dice(77)
	pick := func() int { return numbers[dice.below(len(numbers))] }
	for range 30000 {
		owner, x := pick(), api.Desc{What: api.What(dice.below(8)), Status: uint8(dice.below(256)), Addr: pick(), Len: pick(), Arg: pick()}
		d.Start(pick(), owner, x)
		s, n, l := d.End(pick(), owner, x)
		if s == api.Wrong && (n != 0 || len(l) != 0) || s != api.Good && s != api.Wrong || n < 0 || n > api.Burst {
			t.Fatal(owner, x, s, n, l)
		}
		o, b, l := d.Come(pick(), api.Event{Kind: api.Kind(dice.below(5)), Channel: pick(), Byte: pick(), Data: dice.text(dice.below(9))})
		if o == 0 && (b != 0 || len(l) != 0) || b != 0 && len(l) != 0 {
			t.Fatal(o, b, l)
		}
		d.Drops(pick())
		d.Sector(pick(), pick())
	}
	now := all(t, m)
	if now[:128] != was[:128] || now[256:api.Physical-100] != was[256:api.Physical-100] {
		t.Fatal(mem.Diff(m, from(was)))
	}
}

func TestExample(t *testing.T) {
	d, m := devices(t)
	comes(t, d, 0, byteOn(10, 65), 1, api.Heard)
	does(t, d, 1, 1, ask(api.Hear, 0, 4, 0), 1)
	if b, _ := m.Get(128); b != 65 {
		t.Fatal(b)
	}
}
