package image_test

import (
	"math"
	"slices"
	"strings"
	"testing"

	"campanile/api"
	"campanile/conf"
	"campanile/crc"
	"campanile/image"
)

// The calls have just these signatures.
var (
	_ func(api.Config) (string, api.Errno)              = image.Print
	_ func(string) (api.Config, api.Errno)              = image.Parse
	_ func(api.Config) int                              = image.Size
	_ func(string) (api.Config, []api.Fault, api.Errno) = image.Boot
	_ func(a, b api.Config) bool                        = image.Same
)

// extremes are numbers of which some go round if anything is added to them.
var extremes = []int{math.MinInt, math.MinInt + 1, math.MinInt32, -1, math.MaxInt32, math.MaxInt - 1, math.MaxInt}

// dice are numbers that come the same each time.
type dice uint32

// below is a number from 0 on, below n.
func (d *dice) below(n int) int {
	*d = *d*1664525 + 1013904223
	return int(uint32(*d)>>8) % n
}

// number is one of a table: what it is, and the greatest one that its bytes can tell.
type number struct {
	at   *int
	most int
}

// numbers are those of tables, in the order in which an image has them.
func numbers(c *api.Config) [][]number {
	const one, two = 255, 65535
	var windows, slots, clients []number
	for i := range c.Windows {
		w := &c.Windows[i]
		windows = append(windows, number{&w.Owner, one}, number{&w.From, two}, number{&w.To, two})
	}
	for i := range c.Slots {
		s := &c.Slots[i]
		slots = append(slots, number{&s.Owner, one}, number{&s.From, two}, number{&s.To, two})
	}
	for i := range c.Clients {
		x := &c.Clients[i]
		clients = append(clients, number{&x.Base, two}, number{&x.Size, two}, number{&x.Ring, one}, number{&x.At, two},
			number{&x.Quota, one}, number{&x.Queue, one}, number{&x.Mac, one}, number{&x.Channel, one},
			number{&x.First, two}, number{&x.Sectors, one})
	}
	return [][]number{{{&c.Frame, two}}, windows, slots, clients}
}

// all are the numbers of tables, of whichever table.
func all(c *api.Config) []number {
	return slices.Concat(numbers(c)...)
}

// ahead is the bytes that an image's check is of, from the document's words.
func ahead(c api.Config) string {
	out := []byte{67, 1}
	counts := []int{-1, len(c.Windows), len(c.Slots), len(c.Clients)}
	for i, table := range numbers(&c) {
		if counts[i] >= 0 {
			out = append(out, byte(counts[i]))
		}
		for _, n := range table {
			out = append(out, byte(*n.at))
			if n.most > 255 {
				out = append(out, byte(*n.at/256))
			}
		}
	}
	return string(out)
}

// told is the image of tables, from the document's words.
func told(c api.Config) string {
	return crc.Seal(ahead(c))
}

// filled is tables of so many rows, of any numbers that may be printed.
func filled(d *dice, windows, slots, clients int) api.Config {
	c := api.Config{Windows: make([]api.Window, windows), Slots: make([]api.Slot, slots), Clients: make([]api.Client, clients)}
	for _, n := range all(&c) {
		*n.at = d.below(n.most + 1)
	}
	return c
}

// right is tables of n clients in which nothing is wrong.
func right(n int) api.Config {
	c := api.Config{Frame: 200, Windows: []api.Window{{Owner: 0, From: 0, To: 2 * n}}}
	for i := range n {
		c.Clients = append(c.Clients, api.Client{
			Base: api.System + 100*i, Size: 100, Ring: 4, At: 20, Quota: 1, Queue: 2,
			Mac: 50 + i, Channel: 90 + i, First: 60 * i, Sectors: 5,
		})
		c.Windows = append(c.Windows, api.Window{Owner: i + 1, From: 20 + 10*i, To: 30 + 10*i})
		c.Slots = append(c.Slots, api.Slot{Owner: i + 1, From: 8 * i, To: 8*i + 7})
	}
	return c
}

// few are tables of few rows that can be printed, right ones and others.
func few() []api.Config {
	d := dice(7)
	out := []api.Config{{}, {Frame: 65535}, {Windows: make([]api.Window, 1)}, {Slots: make([]api.Slot, 1)}, {Clients: make([]api.Client, 1)}}
	for n := 1; n <= api.MaxClients; n++ {
		out = append(out, right(n), filled(&d, n, 0, 0), filled(&d, 0, n, 0), filled(&d, 0, 0, n), filled(&d, d.below(9), d.below(30), n))
	}
	return out
}

// many are tables of as many rows as can be printed.
func many() []api.Config {
	d := dice(8)
	return []api.Config{filled(&d, 255, 0, 1), filled(&d, 1, 255, 0), filled(&d, 0, 1, 255), filled(&d, 255, 255, 255)}
}

// some are tables of all kinds that can be printed.
func some() []api.Config {
	return append(few(), many()...)
}

// equal: are tables the same, of which a list may be nil where it is empty?
func equal(a, b api.Config) bool {
	return a.Frame == b.Frame && slices.Equal(a.Windows, b.Windows) && slices.Equal(a.Slots, b.Slots) && slices.Equal(a.Clients, b.Clients)
}

// copied is the same tables, with rows of their own.
func copied(c api.Config) api.Config {
	c.Windows, c.Slots, c.Clients = slices.Clone(c.Windows), slices.Clone(c.Slots), slices.Clone(c.Clients)
	return c
}

// print is the image of tables that have one.
func print(t *testing.T, c api.Config) string {
	t.Helper()
	s, e := image.Print(c)
	if e != api.OK {
		t.Fatal(c, e)
	}
	return s
}

func TestPrint(t *testing.T) { // P16.1
	for _, c := range some() {
		s := print(t, c)
		if s != told(c) {
			t.Fatalf("%v: %q", c, s)
		}
		if image.Size(c) != len(s) {
			t.Fatal(c, image.Size(c), len(s))
		}
	}
}

// P16.1: each number at the edges of what its bytes can tell.
func TestPrintOfEachNumber(t *testing.T) {
	for i := range all(new(filledTwo())) {
		most := all(new(filledTwo()))[i].most
		for _, n := range append([]int{0, 1, 127, 128, 254, 255, 256, 257, 512, 65534, 65535, 65536, 65537, 1 << 32, 1<<32 + 1, -2, -255, -256, -65536}, extremes...) {
			c := filledTwo()
			*all(&c)[i].at = n
			s, e := image.Print(c)
			if n < 0 || n > most {
				if s != "" || e != api.ErrArg {
					t.Fatalf("%d %d: %q %d", i, n, s, e)
				}
			} else if s != told(c) || e != api.OK {
				t.Fatalf("%d %d: %q %d", i, n, s, e)
			}
		}
	}
}

// filledTwo is tables of two rows each.
func filledTwo() api.Config {
	d := dice(3)
	return filled(&d, 2, 2, 2)
}

// P16.1, P2: how many rows there may be; that is asked ahead of the numbers.
func TestPrintOfManyRows(t *testing.T) {
	for _, n := range []int{254, 255, 256, 257, 511, 512, 1000, 65536 + 3} {
		for i := range 3 {
			counts := [3]int{1, 1, 1}
			counts[i] = n
			c := api.Config{Frame: 5, Windows: make([]api.Window, counts[0]), Slots: make([]api.Slot, counts[1]), Clients: make([]api.Client, counts[2])}
			for _, frame := range []int{5, -1, 65536} {
				c.Frame = frame
				want := api.OK
				switch {
				case n > 255:
					want = api.ErrLimit
				case frame != 5:
					want = api.ErrArg
				}
				s, e := image.Print(c)
				if e != want || (s == "") != (e != api.OK) || e == api.OK && s != told(c) {
					t.Fatal(n, i, frame, e)
				}
			}
			if size := image.Size(c); size != 9+5*(counts[0]+counts[1])+14*counts[2] {
				t.Fatal(n, i, size)
			}
		}
	}
}

func TestSize(t *testing.T) { // P16.1: the numbers in the rows play no part
	for windows := range 4 {
		for slots := range 4 {
			for clients := range 4 {
				c := api.Config{Frame: -1, Windows: make([]api.Window, windows), Slots: make([]api.Slot, slots), Clients: make([]api.Client, clients)}
				for _, n := range all(&c) {
					*n.at = math.MinInt
				}
				if n := image.Size(c); n != 9+5*windows+5*slots+14*clients {
					t.Error(windows, slots, clients, n)
				}
			}
		}
	}
}

// P16.1: each number counts, and which row it stands in.
func TestSame(t *testing.T) {
	for _, c := range append(few(), api.Config{Windows: make([]api.Window, 300)}) {
		d := copied(c)
		if !image.Same(c, c) || !image.Same(c, d) || !image.Same(d, c) {
			t.Fatal(c)
		}
		for _, n := range all(&d) {
			for _, other := range []int{*n.at + 1, *n.at - 1, *n.at + 256, *n.at + 65536, -5, math.MinInt, math.MaxInt} {
				was := *n.at
				*n.at = other
				if image.Same(c, d) || image.Same(d, c) || !image.Same(d, d) {
					t.Fatal(c, d)
				}
				*n.at = was
			}
		}
		for _, more := range []func(c *api.Config){
			func(c *api.Config) { c.Windows = append(c.Windows, api.Window{}) },
			func(c *api.Config) { c.Slots = append(c.Slots, api.Slot{}) },
			func(c *api.Config) { c.Clients = append(c.Clients, api.Client{}) },
		} {
			d = copied(c)
			more(&d)
			if image.Same(c, d) || image.Same(d, c) {
				t.Fatal(c, d)
			}
		}
	}
	a, b := right(2), right(2)
	b.Windows[0], b.Windows[1] = b.Windows[1], b.Windows[0]
	if image.Same(a, b) {
		t.Fatal("rows that stand otherwise")
	}
	empty := api.Config{Windows: []api.Window{}, Slots: []api.Slot{}, Clients: []api.Client{}}
	if !image.Same(api.Config{}, empty) || !image.Same(empty, api.Config{}) {
		t.Fatal("nil and empty")
	}
	w, s := api.Config{Windows: make([]api.Window, 1)}, api.Config{Slots: make([]api.Slot, 1)}
	if image.Same(w, s) || image.Same(s, w) {
		t.Fatal("a window is no slot")
	}
}

// parse is what bytes are, from the document's words.
func parse(s string) (api.Config, api.Errno) {
	none := api.Config{}
	s, e := crc.Open(s)
	if e != api.OK {
		return none, e
	}
	if len(s) >= 2 && s[:2] != "\x43\x01" {
		return none, api.ErrForm
	}
	// Tables of as many rows as the bytes tell, as far as they go.
	c, at := api.Config{}, 4
	for i, size := range []int{5, 5, 14} {
		if at >= len(s) {
			return none, api.ErrEnd
		}
		n := int(s[at])
		at += 1 + size*n
		switch i {
		case 0:
			c.Windows = make([]api.Window, n)
		case 1:
			c.Slots = make([]api.Slot, n)
		case 2:
			c.Clients = make([]api.Client, n)
		}
	}
	if at > len(s) {
		return none, api.ErrEnd
	}
	if at < len(s) {
		return none, api.ErrForm
	}
	at = 2
	for i, table := range numbers(&c) {
		if i > 0 {
			at++
		}
		for _, n := range table {
			*n.at = int(s[at])
			at++
			if n.most > 255 {
				*n.at += int(s[at]) * 256
				at++
			}
		}
	}
	return c, api.OK
}

// testParse parses, and boots, bytes.
func testParse(t *testing.T, s string) {
	t.Helper()
	want, e := parse(s)
	c, err := image.Parse(s)
	if err != e || !equal(c, want) {
		t.Fatalf("%q: %v %d, not %v %d", s, c, err, want, e)
	}
	if e == api.OK && print(t, c) != s { // P16.3
		t.Fatalf("%q %v", s, c)
	}
	testBoot(t, s)
}

// testBoot boots bytes (P16.2, P16.4): they do just if they are an image, and its tables are right.
func testBoot(t *testing.T, s string) {
	t.Helper()
	want, e := parse(s)
	c, l, err := image.Boot(s)
	switch {
	case e != api.OK:
		if err != e || len(l) != 0 || !equal(c, api.Config{}) {
			t.Fatalf("%q: %v %v %d, not %d", s, c, l, err, e)
		}
	case !conf.Check(want):
		if err != api.ErrFit || !slices.Equal(l, conf.Faults(want)) || len(l) == 0 || !equal(c, api.Config{}) {
			t.Fatalf("%q: %v %v %d", s, c, l, err)
		}
	case err != api.OK || len(l) != 0 || !equal(c, want):
		t.Fatalf("%q: %v %v %d", s, c, l, err)
	}
}

// P16.2: images, where they end, and what stands behind them, with checks that are right and such that are not.
func TestParse(t *testing.T) {
	for _, c := range few() {
		s := told(c)
		testParse(t, s)
		for n := range len(s) {
			testParse(t, s[:n])
			testParse(t, s[n:])
			testParse(t, crc.Seal(s[:n]))
			testParse(t, crc.Seal(s[n:]))
			if n < len(s)-2 {
				if _, e := image.Parse(crc.Seal(s[:n])); e != api.ErrEnd {
					t.Fatal(c, n, e)
				}
			}
		}
		for _, more := range []string{"\x00", "x", "\x00\x00", s, strings.Repeat("y", 300)} {
			testParse(t, s+more)
			testParse(t, more+s)
			testParse(t, crc.Seal(ahead(c)+more))
			if _, e := image.Parse(crc.Seal(ahead(c) + more)); e != api.ErrForm {
				t.Fatal(c, e)
			}
		}
	}
	for _, c := range many() {
		s := told(c)
		testParse(t, s)
		for _, n := range []int{0, 1, 2, 3, 4, 5, 9, len(s) / 2, len(s) - 4, len(s) - 3} {
			testParse(t, s[:n])
			testParse(t, crc.Seal(s[:n]))
		}
		testParse(t, crc.Seal(ahead(c)+"\x00"))
	}
}

// P16.2: which error is told, where several are.
func TestParseErrors(t *testing.T) {
	text := ahead(right(1))
	for _, x := range []struct {
		s string
		e api.Errno
	}{
		{"", api.ErrEnd},
		{"\x43", api.ErrEnd},
		{"\x43\x01", api.ErrCheck},
		{text, api.ErrCheck},
		{"xy" + text[2:], api.ErrCheck}, // the first two are others, too
		{crc.Seal(""), api.ErrEnd},
		{crc.Seal("\x43"), api.ErrEnd},
		{crc.Seal("\x44"), api.ErrEnd}, // both of the first two must be there to be others
		{crc.Seal("\x43\x01"), api.ErrEnd},
		{crc.Seal("\x43\x02"), api.ErrForm}, // it ends, too
		{crc.Seal("\x44\x01"), api.ErrForm},
		{crc.Seal("\x01\x43"), api.ErrForm},
		{crc.Seal("\x43\x02" + text[2:10]), api.ErrForm},
		{crc.Seal("\x43\x02" + text[2:]), api.ErrForm},
		{crc.Seal("\x43\x02" + text[2:] + "x"), api.ErrForm},
		{crc.Seal("\x43\x01\x00"), api.ErrEnd},
		{crc.Seal("\x43\x01\x00\x00"), api.ErrEnd},
		{crc.Seal("\x43\x01\x00\x00\x00"), api.ErrEnd},
		{crc.Seal("\x43\x01\x00\x00\x00\x00"), api.ErrEnd},
		{crc.Seal("\x43\x01\x00\x00\x00\x00\x00"), api.OK},
		{crc.Seal("\x43\x01\x00\x00\x00\x00\x00\x00"), api.ErrForm},
		{crc.Seal("\x43\x01\x00\x00\x01\x00\x00"), api.ErrEnd},
		{crc.Seal("\x43\x01\x00\x00\xff\x00\x00" + strings.Repeat("\x00", 1000)), api.ErrEnd},
		{crc.Seal("\x43\x01\xff\xff\x00\xff\x00" + strings.Repeat("\x00", 1000)), api.ErrEnd},
		{crc.Seal("\x43\x01\xff\xff\x00\x00\xff" + strings.Repeat("\x00", 14*255-1)), api.ErrEnd},
		{crc.Seal("\x43\x01\xff\xff\x00\x00\xff" + strings.Repeat("\x00", 14*255)), api.OK},
		{crc.Seal(crc.Seal(text)), api.ErrForm},
		{crc.Seal(text) + "x", api.ErrCheck},
	} {
		testParse(t, x.s)
		if _, e := image.Parse(x.s); e != x.e {
			t.Errorf("%q: %d, not %d", x.s, e, x.e)
		}
	}
}

// P16.2: all first two bytes, with and without what belongs behind them.
func TestParseOfFirstBytes(t *testing.T) {
	behind := ahead(right(1))[2:]
	n := 0
	for a := range 256 {
		testParse(t, crc.Seal(string([]byte{byte(a)})))
		for b := range 256 {
			first := string([]byte{byte(a), byte(b)})
			for _, s := range []string{first, first + behind} {
				_, e := image.Parse(crc.Seal(s))
				want := api.ErrForm
				if first == "\x43\x01" {
					want = map[bool]api.Errno{true: api.ErrEnd, false: api.OK}[s == first]
				}
				if e != want {
					t.Fatalf("%q %d", s, e)
				}
				if e == api.OK {
					n++
				}
			}
		}
	}
	if n != 1 {
		t.Fatal(n)
	}
}

// P16.2, P16.4: no bit of an image may be turned.
func TestTurnedBits(t *testing.T) {
	for _, c := range []api.Config{{}, right(1), right(3), filledTwo()} {
		s := told(c)
		for i := range 8 * len(s) {
			b := []byte(s)
			b[i/8] ^= 1 << (i % 8)
			testParse(t, string(b))
			if _, e := image.Parse(string(b)); e != api.ErrCheck {
				t.Fatal(c, i, e)
			}
		}
	}
}

// P16.3: what was printed is parsed as it was; what is parsed is printed as those bytes.
func TestThereAndBack(t *testing.T) {
	for _, c := range some() {
		s := print(t, c)
		x, e := image.Parse(s)
		if e != api.OK || !equal(x, c) || !image.Same(x, c) {
			t.Fatal(c, x, e)
		}
		if print(t, x) != s {
			t.Fatalf("%q %v", s, x)
		}
	}
	d := dice(11)
	read := 0
	for range 3000 { // bytes of which none but the first two are chosen
		b := []byte{67, 1, byte(d.below(256)), byte(d.below(256)), byte(d.below(3))}
		for len(b) < 5+d.below(60) {
			b = append(b, byte(d.below(3)))
		}
		s := crc.Seal(string(b))
		testParse(t, s)
		if _, e := image.Parse(s); e == api.OK {
			read++
		}
	}
	if read < 20 {
		t.Fatal("seldom an image:", read)
	}
}

// P16.2, P16.4: right tables boot; what is wrong in others is told.
func TestBoot(t *testing.T) {
	for n := 1; n <= api.MaxClients; n++ {
		c := right(n)
		x, l, e := image.Boot(told(c))
		if e != api.OK || len(l) != 0 || !equal(x, c) {
			t.Fatal(n, x, l, e)
		}
	}
	c := right(3)
	c.Windows[2].From = c.Windows[1].From
	c.Slots[1].To = c.Slots[1].From
	want := []api.Fault{{Row: 3, Why: conf.WindowMeets}, {Row: 2, Why: conf.BadSlot}, {Row: 2, Why: conf.BadQuota}}
	if x, l, e := image.Boot(told(c)); e != api.ErrFit || !slices.Equal(l, want) || !equal(x, api.Config{}) {
		t.Fatal(x, l, e)
	}
	if x, l, e := image.Boot(told(api.Config{})); e != api.ErrFit || !slices.Equal(l, []api.Fault{{Row: 0, Why: conf.BadFrame}}) || !equal(x, api.Config{}) {
		t.Fatal(x, l, e)
	}
}

// P16.4: tables in which one number is another one boot just if they are right.
func TestBootOfSpoiledTables(t *testing.T) {
	boots, not := 0, 0
	for i := range all(new(right(2))) {
		most := all(new(right(2)))[i].most
		for _, other := range []int{0, 1, 2, 3, 4, 5, 8, 16, 17, 25, 30, 40, 64, 65, 128, 199, 200, 201, 255, 512, 1024, 4096, 4097, 16384, 65535} {
			c := right(2)
			*all(&c)[i].at = min(other, most)
			s := told(c)
			testBoot(t, s)
			if _, _, e := image.Boot(s); e == api.OK {
				boots++
			} else {
				not++
			}
			testBoot(t, s[:len(s)-1])
			testBoot(t, crc.Seal(ahead(c)+"\x00"))
		}
	}
	if boots < 50 || not < 50 {
		t.Fatal(boots, not)
	}
}

// P3: what is handed in stays as it is, spare room too; what is answered is new each time.
func TestWhatIsHandedInStays(t *testing.T) {
	c, was := filledTwo(), filledTwo()
	short := c
	short.Windows, short.Slots, short.Clients = c.Windows[:1], c.Slots[:1], c.Clients[:1]
	s := print(t, short)
	image.Size(short)
	if image.Same(short, c) || !equal(c, was) {
		t.Fatal(c, was)
	}
	a, _ := image.Parse(s)
	b, _ := image.Parse(s)
	for _, n := range all(&a) {
		*n.at++
	}
	if again, _ := image.Parse(s); !equal(b, again) || !equal(b, short) || equal(a, b) || print(t, b) != s {
		t.Fatal(a, b)
	}
	good := told(right(2))
	x, _, _ := image.Boot(good)
	for _, n := range all(&x) {
		*n.at = 0
	}
	if y, l, e := image.Boot(good); e != api.OK || len(l) != 0 || !equal(y, right(2)) {
		t.Fatal(y, l, e)
	}
}

func TestExample(t *testing.T) {
	s := print(t, api.Config{Frame: 258})
	if len(s) != 9 || s != crc.Seal("\x43\x01\x02\x01\x00\x00\x00") || image.Size(api.Config{}) != 9 {
		t.Fatalf("%q", s)
	}
}
