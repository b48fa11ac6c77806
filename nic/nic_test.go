package nic_test

import (
	"math"
	"slices"
	"strings"
	"testing"

	"campanile/api"
	"campanile/crc"
	"campanile/frame"
	"campanile/nic"
)

// The calls have just these signatures.
var (
	_ func(...nic.Port) (*nic.Device, api.Errno)                          = nic.New
	_ func(*nic.Device, int) int                                          = (*nic.Device).Owner
	_ func(*nic.Device, string) (int, bool)                               = (*nic.Device).Come
	_ func(*nic.Device, int) (frame.Frame, api.Errno)                     = (*nic.Device).Take
	_ func(*nic.Device, int) int                                          = (*nic.Device).Waits
	_ func(*nic.Device, int) int                                          = (*nic.Device).Drops
	_ func(*nic.Device) int                                               = (*nic.Device).Odd
	_ func(d *nic.Device, tick, owner, to int, data string) (e api.Errno) = (*nic.Device).Send
	_ func(*nic.Device) []nic.Sent                                        = (*nic.Device).Log
	_ func(*nic.Device) *nic.Device                                       = (*nic.Device).Fork
	_                                                                     = struct{ Owner, Mac, Limit int }(nic.Port{})
	_                                                                     = struct {
		Tick, Owner int
		Data        string
	}(nic.Sent{})
)

// extremes are numbers of which some go round if anything is added to them.
var extremes = []int{math.MinInt, math.MinInt + 1, math.MinInt32, -1, math.MaxInt32, math.MaxInt - 1, math.MaxInt}

// nobody are owners that have no port where 2, 4 and 7 have one.
var nobody = append([]int{0, 1, 3, 5, 6, 8, 9, 258, 1<<32 + 2}, extremes...)

// device is one that has to be there.
func device(t *testing.T, l ...nic.Port) *nic.Device {
	t.Helper()
	d, e := nic.New(l...)
	if e != api.OK || d == nil {
		t.Fatal(l, d, e)
	}
	return d
}

func row(owner, mac, limit int) nic.Port {
	return nic.Port{Owner: owner, Mac: mac, Limit: limit}
}

// all is as many ports as there may be, one for each owner.
func all(limit int) []nic.Port {
	var l []nic.Port
	for owner := api.MaxClients; owner >= 1; owner-- {
		l = append(l, row(owner, owner*31, limit))
	}
	return l
}

// text is the bytes of a frame that may be.
func text(t *testing.T, f frame.Frame) string {
	t.Helper()
	s, e := frame.Print(f)
	if e != api.OK {
		t.Fatal(f, e)
	}
	return s
}

// letter is the bytes of a frame for an address, from 5.
func letter(t *testing.T, to int, data string) string {
	t.Helper()
	return text(t, frame.Frame{To: to, From: 5, Data: data})
}

// come is bytes that come for an owner, with room or not.
func come(t *testing.T, d *nic.Device, s string, owner int, room bool) {
	t.Helper()
	if o, ok := d.Come(s); o != owner || ok != room {
		t.Fatalf("%q: %d %v, not %d %v", s, o, ok, owner, room)
	}
}

// take is the frame that has to wait for an owner.
func take(t *testing.T, d *nic.Device, owner int) frame.Frame {
	t.Helper()
	f, e := d.Take(owner)
	if e != api.OK {
		t.Fatal(owner, e)
	}
	return f
}

// none asks that nothing can be taken.
func none(t *testing.T, d *nic.Device, owner int, want api.Errno) {
	t.Helper()
	if f, e := d.Take(owner); e != want || f != (frame.Frame{}) {
		t.Fatal(owner, f, e)
	}
}

// counts asks what an owner's port tells by itself.
func counts(t *testing.T, d *nic.Device, owner, waits, drops int) {
	t.Helper()
	if d.Waits(owner) != waits || d.Drops(owner) != drops {
		t.Fatal(owner, "waits", d.Waits(owner), waits, "drops", d.Drops(owner), drops)
	}
}

// odd asks how often nobody's frame came.
func odd(t *testing.T, d *nic.Device, n int) {
	t.Helper()
	if d.Odd() != n {
		t.Fatal("odd", d.Odd(), n)
	}
}

func TestNewOfOnePort(t *testing.T) { // P13.1
	owners := append([]int{0, 1, 2, 7, 8, 9, 1<<32 + 1}, extremes...)
	macs := append([]int{0, 1, 127, 254, 255, 256, 257, 1 << 32}, extremes...)
	limits := append([]int{0, 1, 2, 15, 16, 17, 256, 1 << 32}, extremes...)
	for _, owner := range owners {
		for _, mac := range macs {
			for _, limit := range limits {
				may := 1 <= owner && owner <= 8 && 0 <= mac && mac <= 255 && 0 <= limit && limit <= 16
				d, e := nic.New(row(owner, mac, limit))
				switch {
				case may && (e != api.OK || d.Owner(mac) != owner):
					t.Fatal(owner, mac, limit, e)
				case !may && (e != api.ErrArg || d != nil):
					t.Fatal(owner, mac, limit, d, e)
				}
			}
		}
	}
}

// P13.1, P2: port by port, and of a port the error that is named first.
func TestNewOfSomePorts(t *testing.T) {
	good, other := row(1, 5, 2), row(2, 0, 16)
	for _, c := range []struct {
		l []nic.Port
		e api.Errno
	}{
		{nil, api.OK},
		{[]nic.Port{good, other}, api.OK},
		{[]nic.Port{good, row(2, 6, 2)}, api.OK}, // limits may be alike
		{[]nic.Port{good, good}, api.ErrSame},
		{[]nic.Port{good, row(1, 6, 3)}, api.ErrSame},
		{[]nic.Port{good, row(2, 5, 3)}, api.ErrSame},
		{[]nic.Port{good, other, row(3, 5, 0)}, api.ErrSame},
		{[]nic.Port{good, other, row(3, 0, 0)}, api.ErrSame},
		{[]nic.Port{good, other, row(1, 9, 0)}, api.ErrSame},
		{[]nic.Port{good, other, row(2, 9, 0)}, api.ErrSame},
		{[]nic.Port{good, other, row(2, 5, 0)}, api.ErrSame}, // of two ports
		{[]nic.Port{good, row(1, 5, 17)}, api.ErrArg},        // first of all it may not be
		{[]nic.Port{good, row(1, 256, 0)}, api.ErrArg},
		{[]nic.Port{good, row(9, 5, 0)}, api.ErrArg},
		{[]nic.Port{good, row(0, 5, 0)}, api.ErrArg},
		{[]nic.Port{good, good, row(0, 0, 0)}, api.ErrSame}, // the port that is ahead tells
		{[]nic.Port{good, row(0, 0, 0), good}, api.ErrArg},
		{[]nic.Port{{}, good}, api.ErrArg},
	} {
		d, e := nic.New(c.l...)
		if e != c.e || (d == nil) != (e != api.OK) {
			t.Error(c.l, d, e)
		}
	}
}

func TestOwner(t *testing.T) { // P13.1
	for _, l := range [][]nic.Port{nil, {row(3, 0, 1)}, {row(8, 255, 1), row(1, 254, 0)}, all(3)} {
		whose := map[int]int{}
		for _, x := range l {
			whose[x.Mac] = x.Owner
		}
		macs := append([]int{256 + 255, 1 << 32, 1<<32 + 254}, extremes...)
		for mac := -300; mac < 600; mac++ {
			macs = append(macs, mac)
		}
		d := device(t, l...)
		for _, mac := range macs {
			if o := d.Owner(mac); o != whose[mac] {
				t.Fatal(l, mac, o)
			}
		}
	}
}

// P13.2: whatever a frame has, it waits for the owner of its address, and is taken as it was.
func TestComeOfAnyFrame(t *testing.T) {
	d := device(t, row(4, 9, 1), row(2, 0, 1), row(7, 255, 1))
	whose := map[int]int{9: 4, 0: 2, 255: 7}
	long := "\x00\x01" + strings.Repeat("\xff\x00z", 10)
	for to, owner := range whose {
		for from := range 256 {
			for n := range api.Burst + 1 {
				f := frame.Frame{To: to, From: from, Data: long[:n]}
				come(t, d, text(t, f), owner, true)
				if got := take(t, d, owner); got != f {
					t.Fatal(got, f)
				}
			}
		}
	}
	odd(t, d, 0)
}

// P13.2: as many as its limit says wait, the next ones are dropped, and counted; what waits stays as it was, and goes in order.
func TestComeToTheLimit(t *testing.T) {
	for limit := range api.MaxQueue + 1 {
		d := device(t, row(1, 1, 16), row(2, 2, limit), row(3, 3, 0))
		letters := "abcdefghijklmnopqrstuvwxyz"
		for i := range len(letters) {
			come(t, d, letter(t, 2, letters[i:i+1]), 2, i < limit)
			counts(t, d, 2, min(i+1, limit), max(i+1-limit, 0))
		}
		for i := range limit {
			if f := take(t, d, 2); f != (frame.Frame{To: 2, From: 5, Data: letters[i : i+1]}) {
				t.Fatal(limit, i, f)
			}
			counts(t, d, 2, limit-i-1, len(letters)-limit)
		}
		none(t, d, 2, api.ErrEmpty)
		come(t, d, letter(t, 2, "x"), 2, limit > 0)
		counts(t, d, 1, 0, 0)
		counts(t, d, 3, 0, 0)
		odd(t, d, 0) // what is dropped was somebody's
	}
}

// P13.2: what is no frame's is counted, and is nobody's, even where somebody has the address 0.
func TestComeOfNoFrame(t *testing.T) {
	d := device(t, row(2, 0, 3), row(4, 9, 3), row(7, 72, 3))
	good := letter(t, 9, "hi")
	wrong := []string{
		"", "\x00", "\x09", "\x09\x05\x02", "Hi", "junk",
		good[:len(good)-1], good + "x", good + good,
		"\x00" + good[1:], // for another one, so the check is not right
		good[:3] + "ho" + good[5:],
		crc.Seal("\x09\x05\x03hi"), crc.Seal("\x09\x05\x01hi"),
		crc.Seal("\x09\x05\x21" + strings.Repeat("x", api.Burst+1)),
		strings.Repeat("\x00", 5), strings.Repeat("\xff", 300),
	}
	for i := range len(good) {
		for bit := range 8 {
			b := []byte(good)
			b[i] ^= 1 << bit
			wrong = append(wrong, string(b))
		}
	}
	for i, s := range wrong {
		come(t, d, s, 0, false)
		odd(t, d, i+1)
		for _, owner := range []int{2, 4, 7} {
			counts(t, d, owner, 0, 0)
		}
	}
	come(t, d, good, 4, true)
	odd(t, d, len(wrong))
}

// P13.2: so is a frame for nobody.
func TestComeForNobody(t *testing.T) {
	d := device(t, row(2, 10, 1), row(4, 255, 0))
	n := 0
	for to := range 256 {
		if to == 10 || to == 255 {
			continue
		}
		come(t, d, text(t, frame.Frame{To: to, From: 10, Data: "hi"}), 0, false) // who sends it plays no part
		n++
		odd(t, d, n)
	}
	for owner := range 10 {
		counts(t, d, owner, 0, 0)
	}
	come(t, d, letter(t, 10, "hi"), 2, true)
	come(t, d, letter(t, 10, "hi"), 2, false)
	come(t, d, letter(t, 255, "hi"), 4, false)
	odd(t, d, n)
}

func TestTakeErrors(t *testing.T) { // P13.2
	d := device(t, row(2, 5, 3), row(4, 0, 0))
	for range 2 {
		for _, owner := range append([]int{7}, nobody...) {
			none(t, d, owner, api.ErrOwner)
		}
		none(t, d, 4, api.ErrEmpty)
		none(t, d, 2, api.ErrEmpty)
		come(t, d, letter(t, 5, "a"), 2, true)
		counts(t, d, 2, 1, 0)
		if f := take(t, d, 2); f.Data != "a" {
			t.Fatal(f)
		}
	}
}

// P13.2: a frame of which all is zero waits, and is taken, as any other one.
func TestZeroFrame(t *testing.T) {
	d := device(t, row(2, 0, 1))
	come(t, d, text(t, frame.Frame{}), 2, true)
	counts(t, d, 2, 1, 0)
	if f := take(t, d, 2); f != (frame.Frame{}) {
		t.Fatal(f)
	}
	none(t, d, 2, api.ErrEmpty)
}

// P13.2: of who has no port all counts are 0.
func TestCountsOfNobody(t *testing.T) {
	d := device(t, row(2, 5, 1))
	come(t, d, letter(t, 5, "a"), 2, true)
	come(t, d, letter(t, 5, "b"), 2, false)
	come(t, d, letter(t, 6, "c"), 0, false)
	counts(t, d, 2, 1, 1)
	for _, owner := range append([]int{4, 7}, nobody...) {
		counts(t, d, owner, 0, 0)
	}
}

func TestSend(t *testing.T) { // P13.3
	d := device(t, row(2, 0, 1), row(7, 255, 0), row(4, 9, 16))
	if l := d.Log(); len(l) != 0 {
		t.Fatal(l)
	}
	macs := map[int]int{2: 0, 7: 255, 4: 9}
	var want []nic.Sent
	for i, tick := range append([]int{5, 4, 4, 0}, extremes...) { // ticks need not rise
		for _, data := range []string{"", "hi", "\x00\xff", strings.Repeat("x", api.Burst)} {
			for _, owner := range []int{7, 2, 4} {
				for _, to := range []int{0, 9, 100, 255} { // its own address, another one's, or nobody's
					if e := d.Send(tick, owner, to, data); e != api.OK {
						t.Fatal(tick, owner, to, data, e)
					}
					s := text(t, frame.Frame{To: to, From: macs[owner], Data: data})
					want = append(want, nic.Sent{Tick: tick, Owner: owner, Data: s})
				}
			}
		}
		if l := d.Log(); !slices.Equal(l, want) {
			t.Fatal(i, l)
		}
	}
	for owner := range macs { // what is sent does not come at the device that sent it
		counts(t, d, owner, 0, 0)
	}
	odd(t, d, 0)
}

// P13.3, P2: ErrOwner, then the errors of frame.Print, in their order; nothing is put down.
func TestSendErrors(t *testing.T) {
	d := device(t, row(2, 0, 1), row(4, 9, 0), row(7, 255, 1))
	good, long := "hi", strings.Repeat("x", api.Burst+1)
	tos := append([]int{256, 257, 511, 1 << 32, 1<<32 + 9}, extremes...)
	for _, data := range []string{"", good, long, strings.Repeat(long, 1000)} {
		for _, to := range append([]int{0, 9, 255}, tos...) {
			for _, owner := range nobody {
				if e := d.Send(3, owner, to, data); e != api.ErrOwner {
					t.Fatal(owner, to, e)
				}
			}
		}
		for _, to := range tos {
			if e := d.Send(3, 4, to, data); e != api.ErrArg {
				t.Fatal(to, len(data), e)
			}
		}
	}
	for to := range 256 {
		if e := d.Send(3, 7, to, long); e != api.ErrLimit {
			t.Fatal(to, e)
		}
	}
	if l := d.Log(); len(l) != 0 {
		t.Fatal(l)
	}
}

// port is what a port does, from the document's words.
type port struct {
	nic.Port
	waits   []frame.Frame
	dropped int
}

// comes is a frame more.
func (p *port) comes(f frame.Frame) bool {
	if len(p.waits) == p.Limit {
		p.dropped++
		return false
	}
	p.waits = append(slices.Clone(p.waits), f)
	return true
}

// pair is a device, and ports that stand alone.
type pair struct {
	d    *nic.Device
	l    []port
	odd  int
	sent []nic.Sent
}

// same asks all that a device tells without changing it.
func (p *pair) same(t *testing.T) {
	t.Helper()
	for _, x := range p.l {
		counts(t, p.d, x.Owner, len(x.waits), x.dropped)
	}
	odd(t, p.d, p.odd)
}

// fork is a pair by itself.
func (p *pair) fork() *pair {
	return &pair{p.d.Fork(), slices.Clone(p.l), p.odd, slices.Clone(p.sent)}
}

// P13.2 to P13.4: for long, with all that can be done on ports side by side, each held against one that stands alone; forks go on by themselves.
func TestAgainstPorts(t *testing.T) {
	var rows []nic.Port
	for i, x := range all(0) {
		x.Limit = []int{0, 1, 2, 3, 7, 15, 16, 4}[i]
		rows = append(rows, x)
	}
	first := &pair{d: device(t, rows...)}
	for _, x := range rows {
		first.l = append(first.l, port{Port: x})
	}
	pairs := []*pair{first}
	state := uint32(7)
	draw := func(n int) int {
		state = state*1664525 + 1013904223
		return int(state>>8) % n
	}
	for step := range 20000 {
		p := pairs[draw(len(pairs))]
		x := &p.l[draw(len(p.l))]
		f := frame.Frame{To: x.Mac, From: draw(256), Data: strings.Repeat(string(rune('a'+draw(26))), draw(api.Burst+1))}
		switch draw(8) {
		case 0, 1, 2:
			come(t, p.d, text(t, f), x.Owner, x.comes(f))
		case 3:
			p.odd++
			f.To++ // no two of these addresses stand side by side
			come(t, p.d, text(t, f), 0, false)
		case 4:
			p.odd++
			come(t, p.d, text(t, f)[1:], 0, false)
		case 5:
			if e := p.d.Send(step, x.Owner, f.From, f.Data); e != api.OK {
				t.Fatal(step, e)
			}
			p.sent = append(p.sent, nic.Sent{Tick: step, Owner: x.Owner, Data: text(t, frame.Frame{To: f.From, From: x.Mac, Data: f.Data})})
		default:
			if len(x.waits) == 0 {
				none(t, p.d, x.Owner, api.ErrEmpty)
				break
			}
			if got := take(t, p.d, x.Owner); got != x.waits[0] {
				t.Fatal(step, got, x.waits[0])
			}
			x.waits = x.waits[1:]
		}
		if step%3000 == 2999 {
			pairs = append(pairs, p.fork())
		}
		for _, p := range pairs {
			p.same(t)
		}
	}
	for i, p := range pairs {
		if l := p.d.Log(); !slices.Equal(l, p.sent) {
			t.Fatal(i, "what was sent")
		}
	}
}

// P13.4: what comes for one address changes nothing of another one's port.
func TestPortsStayApart(t *testing.T) {
	d := device(t, all(2)...)
	for owner := 1; owner <= api.MaxClients; owner++ {
		come(t, d, letter(t, owner*31, string(rune('a'+owner))), owner, true)
	}
	for i := range 10 {
		come(t, d, letter(t, 31, "more"), 1, i == 0)
		come(t, d, letter(t, 30, "nobody's"), 0, false)
	}
	take(t, d, 1)
	for owner := 2; owner <= api.MaxClients; owner++ {
		counts(t, d, owner, 1, 0)
		if f := take(t, d, owner); f != (frame.Frame{To: owner * 31, From: 5, Data: string(rune('a' + owner))}) {
			t.Fatal(owner, f)
		}
	}
	counts(t, d, 1, 1, 9)
}

// P13.4: what is sent comes, at another device, to the owner of the address that it was for, as it was.
func TestSentComes(t *testing.T) {
	from := device(t, all(0)...)
	at := device(t, row(5, 31, 1), row(1, 0, 1), row(8, 255, 1), row(2, 62, 1))
	for owner := 1; owner <= api.MaxClients; owner++ {
		for to, whose := range map[int]int{31: 5, 0: 1, 255: 8, 62: 2, 93: 0} {
			for n := range api.Burst + 1 {
				data := strings.Repeat("\x00", n/2) + strings.Repeat("\xfe", n-n/2)
				if e := from.Send(n, owner, to, data); e != api.OK {
					t.Fatal(owner, to, n, e)
				}
				l := from.Log()
				come(t, at, l[len(l)-1].Data, whose, whose != 0)
				if whose == 0 {
					continue
				}
				if f := take(t, at, whose); f != (frame.Frame{To: to, From: owner * 31, Data: data}) {
					t.Fatal(owner, to, n, f)
				}
			}
		}
	}
	odd(t, from, 0)
	odd(t, at, api.MaxClients*(api.Burst+1))
}

// P13.3, P4: a fork tells the same; what becomes of the one changes nothing of the other one.
func TestFork(t *testing.T) {
	d := device(t, row(1, 10, 3), row(2, 20, 1))
	for i, data := range []string{"A", "B", "C", "D"} {
		come(t, d, letter(t, 10, data), 1, i < 3)
	}
	come(t, d, "junk", 0, false)
	d.Send(1, 2, 7, "ahead")
	take(t, d, 1)
	f := d.Fork()
	if f == d || f.Owner(10) != 1 || f.Owner(20) != 2 || f.Owner(30) != 0 {
		t.Fatal("not a fork")
	}
	counts(t, f, 1, 2, 1)
	counts(t, f, 2, 0, 0)
	odd(t, f, 1)
	come(t, f, letter(t, 10, "F"), 1, true)
	come(t, f, letter(t, 10, "G"), 1, false)
	come(t, d, letter(t, 10, "P"), 1, true)
	come(t, f, "junk", 0, false)
	come(t, f, letter(t, 30, ""), 0, false)
	f.Send(2, 1, 7, "of the fork")
	d.Send(3, 1, 7, "of the first one")
	come(t, d, letter(t, 20, "Q"), 2, true)
	counts(t, d, 1, 3, 1)
	counts(t, f, 1, 3, 2)
	counts(t, d, 2, 1, 0)
	counts(t, f, 2, 0, 0)
	odd(t, d, 1)
	odd(t, f, 3)
	for i := range 3 {
		if a, b := take(t, d, 1).Data, take(t, f, 1).Data; a != "BCP"[i:i+1] || b != "BCF"[i:i+1] {
			t.Fatal(i, a, b)
		}
	}
	ahead := nic.Sent{Tick: 1, Owner: 2, Data: text(t, frame.Frame{To: 7, From: 20, Data: "ahead"})}
	first := nic.Sent{Tick: 3, Owner: 1, Data: text(t, frame.Frame{To: 7, From: 10, Data: "of the first one"})}
	fork := nic.Sent{Tick: 2, Owner: 1, Data: text(t, frame.Frame{To: 7, From: 10, Data: "of the fork"})}
	if l := d.Log(); !slices.Equal(l, []nic.Sent{ahead, first}) {
		t.Fatal(l)
	}
	if l := f.Log(); !slices.Equal(l, []nic.Sent{ahead, fork}) {
		t.Fatal(l)
	}
}

// P4: whatever room is behind the list of what was sent, a fork has none of it.
func TestForkOfLog(t *testing.T) {
	for n := range 20 {
		d := device(t, row(1, 1, 1))
		for i := range n {
			d.Send(i, 1, 2, "ahead")
		}
		f := d.Fork()
		d.Send(100, 1, 2, "first")
		f.Send(200, 1, 2, "fork")
		a, b := d.Log(), f.Log()
		if len(a) != n+1 || len(b) != n+1 || a[n].Tick != 100 || b[n].Tick != 200 || !slices.Equal(a[:n], b[:n]) {
			t.Fatal(n, a, b)
		}
	}
}

// P13.3: a nil device.
func TestNil(t *testing.T) {
	var d *nic.Device
	for _, n := range append([]int{0, 1, 2, 8, 255, 256}, extremes...) {
		if o := d.Owner(n); o != 0 {
			t.Fatal(o)
		}
		come(t, d, letter(t, 0, "a"), 0, false)
		come(t, d, "junk", 0, false)
		none(t, d, n, api.ErrNil)
		counts(t, d, n, 0, 0)
		odd(t, d, 0)
		for _, data := range []string{"", strings.Repeat("x", api.Burst+1)} {
			if e := d.Send(n, n, n, data); e != api.ErrNil {
				t.Fatal(n, e)
			}
		}
	}
	if l, f := d.Log(), d.Fork(); len(l) != 0 || f != nil {
		t.Fatal(l, f)
	}
}

// P1: a device that no call made, and one without ports, end every call.
func TestWithoutPorts(t *testing.T) {
	for _, d := range []*nic.Device{{}, device(t), device(t).Fork()} {
		for i, n := range append([]int{0, 1, 8}, extremes...) {
			come(t, d, letter(t, 0, "a"), 0, false)
			come(t, d, "junk", 0, false)
			odd(t, d, 2*(i+1))
			none(t, d, n, api.ErrOwner)
			counts(t, d, n, 0, 0)
			if e := d.Send(n, n, n, "hi"); e != api.ErrOwner {
				t.Fatal(e)
			}
		}
		if l := d.Fork().Log(); len(l) != 0 {
			t.Fatal(l)
		}
	}
}

// P3: what is handed in stays as it is, spare room too, and is not kept.
func TestArgumentsStay(t *testing.T) {
	room := []nic.Port{row(2, 5, 1), row(1, 6, 0), row(7, 7, 7)}
	was := slices.Clone(room)
	d := device(t, room[:2]...)
	if !slices.Equal(room, was) {
		t.Fatal(room)
	}
	room[0], room[1] = row(3, 8, 9), row(4, 9, 9)
	if d.Owner(5) != 2 || d.Owner(6) != 1 || d.Owner(8) != 0 || d.Owner(7) != 0 {
		t.Fatal("it is kept")
	}
	come(t, d, letter(t, 5, "a"), 2, true)
	come(t, d, letter(t, 5, "b"), 2, false)
}

// P3: what is answered is new memory.
func TestAnswersAreNew(t *testing.T) {
	d := device(t, row(2, 5, 1))
	for i := range 5 {
		d.Send(i, 2, 9, "hi")
	}
	a, b := d.Log(), d.Log()
	a[0] = nic.Sent{}
	_ = append(a[:2], nic.Sent{}, nic.Sent{})
	_ = append(b, nic.Sent{Tick: 77})
	d.Send(5, 2, 9, "ho")
	_ = append(b, nic.Sent{Tick: 78})
	last := nic.Sent{Tick: 5, Owner: 2, Data: text(t, frame.Frame{To: 9, From: 5, Data: "ho"})}
	if l := d.Log(); !slices.Equal(l[:5], b) || l[5] != last {
		t.Fatal(l)
	}
}

// P6: devices stand by themselves, one beside the other.
func TestDevicesStayApart(t *testing.T) {
	a, b := device(t, row(1, 5, 1)), device(t, row(1, 5, 1), row(2, 6, 1))
	come(t, a, letter(t, 5, "a"), 1, true)
	come(t, a, letter(t, 5, "b"), 1, false)
	come(t, a, letter(t, 6, "c"), 0, false)
	a.Send(1, 1, 6, "hi")
	counts(t, b, 1, 0, 0)
	odd(t, b, 0)
	if len(b.Log()) != 0 || a.Owner(6) != 0 {
		t.Fatal(a, b)
	}
}

func TestExample(t *testing.T) {
	d := device(t, row(1, 3, 1))
	come(t, d, letter(t, 3, "first"), 1, true)
	come(t, d, letter(t, 3, "other"), 1, false)
	counts(t, d, 1, 1, 1)
	if f := take(t, d, 1); f.Data != "first" {
		t.Fatal(f)
	}
}
