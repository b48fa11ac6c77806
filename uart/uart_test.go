package uart_test

import (
	"math"
	"slices"
	"strings"
	"testing"

	"campanile/api"
	"campanile/tone"
	"campanile/uart"
)

// The calls have just these signatures.
var (
	_ func(...uart.Line) (*uart.Device, api.Errno)              = uart.New
	_ func(*uart.Device, int) int                               = (*uart.Device).Owner
	_ func(*uart.Device, int, int) (int, bool)                  = (*uart.Device).Byte
	_ func(*uart.Device, int, [4]complex128) (int, bool)        = (*uart.Device).Tone
	_ func(*uart.Device, int, int) (int, api.Errno)             = (*uart.Device).Get
	_ func(*uart.Device, int, int) (string, api.Errno)          = (*uart.Device).Take
	_ func(*uart.Device, int) int                               = (*uart.Device).Waits
	_ func(*uart.Device, int) int                               = (*uart.Device).Drops
	_ func(*uart.Device, int) int                               = (*uart.Device).Odd
	_ func(d *uart.Device, tick, owner int, s string) api.Errno = (*uart.Device).Say
	_ func(*uart.Device) []uart.Said                            = (*uart.Device).Log
	_ func(*uart.Device) *uart.Device                           = (*uart.Device).Fork
	_                                                           = struct{ Owner, Channel, Limit int }(uart.Line{})
	_                                                           = struct {
		Tick, Owner, Channel int
		Data                 string
	}(uart.Said{})
)

// extremes are numbers of which some go round if anything is added to them.
var extremes = []int{math.MinInt, math.MinInt + 1, math.MinInt32, -1, math.MaxInt32, math.MaxInt - 1, math.MaxInt}

var (
	inf = math.Inf(1)
	nan = math.NaN()
)

// mute are symbols that say nothing.
var mute = []complex128{0, 1, -1i, complex(math.Copysign(0, -1), 1), complex(1, nan), complex(nan, nan), complex(inf, 0)}

// leaves is what n leaves of a number, from 0 on.
func leaves(x, n int) int { return (x%n + n) % n }

// device is one that has to be there.
func device(t *testing.T, l ...uart.Line) *uart.Device {
	t.Helper()
	d, e := uart.New(l...)
	if e != api.OK || d == nil {
		t.Fatal(l, d, e)
	}
	return d
}

func row(owner, channel, limit int) uart.Line {
	return uart.Line{Owner: owner, Channel: channel, Limit: limit}
}

// byteIn is a byte that comes for an owner, with room or not.
func byteIn(t *testing.T, d *uart.Device, channel, b, owner int, room bool) {
	t.Helper()
	if o, ok := d.Byte(channel, b); o != owner || ok != room {
		t.Fatal(channel, b, o, ok)
	}
}

// get is a register that has to be there.
func get(t *testing.T, d *uart.Device, owner, register int) int {
	t.Helper()
	n, e := d.Get(owner, register)
	if e != api.OK {
		t.Fatal(owner, register, e)
	}
	return n
}

// take is bytes of an owner that has a line.
func take(t *testing.T, d *uart.Device, owner, n int) string {
	t.Helper()
	s, e := d.Take(owner, n)
	if e != api.OK {
		t.Fatal(owner, n, e)
	}
	return s
}

// counts asks what an owner's line tells by itself.
func counts(t *testing.T, d *uart.Device, owner, waits, drops, odd int) {
	t.Helper()
	if d.Waits(owner) != waits || d.Drops(owner) != drops || d.Odd(owner) != odd {
		t.Fatal(owner, "waits", d.Waits(owner), waits, "drops", d.Drops(owner), drops, "odd", d.Odd(owner), odd)
	}
}

func TestNewOfOneLine(t *testing.T) { // P12.1
	owners := append([]int{0, 1, 2, 7, 8, 9, 1<<32 + 1}, extremes...)
	channels := append([]int{0, 1, 127, 254, 255, 256, 257, 1 << 32}, extremes...)
	limits := append([]int{0, 1, 2, 15, 16, 17, 256, 1 << 32}, extremes...)
	for _, owner := range owners {
		for _, channel := range channels {
			for _, limit := range limits {
				may := 1 <= owner && owner <= 8 && 0 <= channel && channel <= 255 && 0 <= limit && limit <= 16
				d, e := uart.New(row(owner, channel, limit))
				switch {
				case may && (e != api.OK || d.Owner(channel) != owner):
					t.Fatal(owner, channel, limit, e)
				case !may && (e != api.ErrArg || d != nil):
					t.Fatal(owner, channel, limit, d, e)
				}
			}
		}
	}
}

// P12.1, P2: line by line, and of a line the error that is named first.
func TestNewOfSomeLines(t *testing.T) {
	good, other := row(1, 5, 2), row(2, 0, 16)
	for _, c := range []struct {
		l []uart.Line
		e api.Errno
	}{
		{nil, api.OK},
		{[]uart.Line{good, other}, api.OK},
		{[]uart.Line{good, row(2, 6, 2)}, api.OK}, // limits may be alike
		{[]uart.Line{good, good}, api.ErrSame},
		{[]uart.Line{good, row(1, 6, 3)}, api.ErrSame},
		{[]uart.Line{good, row(2, 5, 3)}, api.ErrSame},
		{[]uart.Line{good, other, row(3, 5, 0)}, api.ErrSame},
		{[]uart.Line{good, other, row(3, 0, 0)}, api.ErrSame},
		{[]uart.Line{good, other, row(1, 9, 0)}, api.ErrSame},
		{[]uart.Line{good, other, row(2, 9, 0)}, api.ErrSame},
		{[]uart.Line{good, other, row(2, 5, 0)}, api.ErrSame}, // of two lines
		{[]uart.Line{good, row(1, 5, 17)}, api.ErrArg},        // first of all it may not be
		{[]uart.Line{good, row(1, 256, 0)}, api.ErrArg},
		{[]uart.Line{good, row(9, 5, 0)}, api.ErrArg},
		{[]uart.Line{good, row(0, 5, 0)}, api.ErrArg},
		{[]uart.Line{good, good, row(0, 0, 0)}, api.ErrSame}, // the line that is ahead tells
		{[]uart.Line{good, row(0, 0, 0), good}, api.ErrArg},
		{[]uart.Line{{}, good}, api.ErrArg},
	} {
		d, e := uart.New(c.l...)
		if e != c.e || (d == nil) != (e != api.OK) {
			t.Error(c.l, d, e)
		}
	}
}

// all is as many lines as there may be, one for each owner.
func all(limit int) []uart.Line {
	var l []uart.Line
	for owner := api.MaxClients; owner >= 1; owner-- {
		l = append(l, row(owner, owner*31, limit))
	}
	return l
}

func TestOwner(t *testing.T) { // P12.1
	for _, l := range [][]uart.Line{nil, {row(3, 0, 1)}, {row(8, 255, 1), row(1, 254, 0)}, all(3)} {
		whose := map[int]int{}
		for _, x := range l {
			whose[x.Channel] = x.Owner
		}
		channels := append([]int{256 + 255, 1 << 32, 1<<32 + 254}, extremes...)
		for channel := -300; channel < 600; channel++ {
			channels = append(channels, channel)
		}
		d := device(t, l...)
		for _, channel := range channels {
			if o := d.Owner(channel); o != whose[channel] {
				t.Fatal(l, channel, o)
			}
		}
	}
}

// P12.2: what comes is what 256 leaves of it, from 0 on.
func TestByteOfAnyNumber(t *testing.T) {
	d := device(t, row(4, 9, 2))
	numbers := append([]int{1 << 40, 1<<40 + 7}, extremes...)
	for b := -600; b < 600; b++ {
		numbers = append(numbers, b)
	}
	for _, b := range numbers {
		byteIn(t, d, 9, b, 4, true)
		byteIn(t, d, 9, b, 4, true)
		if n := get(t, d, 4, 1); n != leaves(b, 256) {
			t.Fatal(b, n)
		}
		if s := take(t, d, 4, 1); s != string([]byte{byte(leaves(b, 256))}) {
			t.Fatalf("%d %q", b, s)
		}
	}
}

// P12.2: as many as its limit says wait, the next ones are dropped, and counted; what waits stays as it was.
func TestByteToTheLimit(t *testing.T) {
	for limit := range api.MaxQueue + 1 {
		d := device(t, row(1, 1, 16), row(2, 2, limit), row(3, 3, 0))
		text := "abcdefghijklmnopqrstuvwxyz"
		for i := range len(text) {
			byteIn(t, d, 2, int(text[i]), 2, i < limit)
			counts(t, d, 2, min(i+1, limit), max(i+1-limit, 0), 0)
		}
		if s := take(t, d, 2, 99); s != text[:limit] {
			t.Fatalf("%d %q", limit, s)
		}
		byteIn(t, d, 2, 'x', 2, limit > 0)
		counts(t, d, 1, 0, 0, 0)
		counts(t, d, 3, 0, 0, 0)
	}
}

// P12.2: on a channel that is nobody's nothing is done.
func TestByteForNobody(t *testing.T) {
	d := device(t, row(2, 5, 1))
	says, mutes := tone.Tones('A'), [4]complex128{}
	for _, channel := range append([]int{0, 1, 2, 4, 6, 255, 256, 261, 1<<32 + 5}, extremes...) {
		byteIn(t, d, channel, 65, 0, false)
		for _, x := range [][4]complex128{says, mutes} {
			if o, ok := d.Tone(channel, x); o != 0 || ok {
				t.Fatal(channel, o, ok)
			}
		}
	}
	for owner := range 10 {
		counts(t, d, owner, 0, 0, 0)
	}
	byteIn(t, d, 5, 66, 2, true)
}

func TestTone(t *testing.T) { // P12.2
	d := device(t, row(4, 9, 3))
	for b := range 256 {
		x := tone.Tones(b)
		for i := range x {
			x[i] *= complex(float64(i+1)/2, 0) // what is weaker or stronger says the same
		}
		for i := range 5 {
			if o, ok := d.Tone(9, x); o != 4 || ok != (i < 3) {
				t.Fatal(b, o, ok)
			}
		}
		counts(t, d, 4, 3, 2*(b+1), 0)
		if s := take(t, d, 4, 99); s != strings.Repeat(string([]byte{byte(b)}), 3) {
			t.Fatalf("%d %q", b, s)
		}
	}
}

// P12.2: symbols that say nothing are counted once for all four; nothing comes, and nothing is dropped, be there room or not.
func TestToneThatSaysNothing(t *testing.T) {
	for _, limit := range []int{0, 1, 2, 16} {
		d := device(t, row(4, 9, limit), row(5, 10, limit))
		byteIn(t, d, 9, 65, 4, limit > 0)
		waits, drops, n := d.Waits(4), d.Drops(4), 0
		for which := range 16 { // which of the four say nothing
			for i, z := range mute {
				x := tone.Tones(i * 31)
				for k := range x {
					if which>>k&1 == 1 {
						x[k] = z
					}
				}
				if which == 0 {
					continue
				}
				n++
				if o, ok := d.Tone(9, x); o != 4 || ok {
					t.Fatal(x, o, ok)
				}
				counts(t, d, 4, waits, drops, n)
			}
		}
		counts(t, d, 5, 0, 0, 0)
		if s := take(t, d, 4, 99); s != "A"[:waits] {
			t.Fatalf("%q", s)
		}
	}
}

// P12.3, P2: ErrOwner comes first, and with an error nothing goes.
func TestGetErrors(t *testing.T) {
	d := device(t, row(2, 5, 3))
	byteIn(t, d, 5, 65, 2, true)
	registers := append([]int{-2, 0, 1, 2, 3, 4, 5, 256, 257, 1<<32 + 1}, extremes...)
	for _, owner := range append([]int{0, 1, 3, 5, 8, 9, 258, 1<<32 + 2}, extremes...) {
		for _, register := range registers {
			if n, e := d.Get(owner, register); n != 0 || e != api.ErrOwner {
				t.Fatal(owner, register, n, e)
			}
		}
	}
	for _, register := range registers {
		if register >= 0 && register <= 3 {
			continue
		}
		if n, e := d.Get(2, register); n != 0 || e != api.ErrArg {
			t.Fatal(register, n, e)
		}
	}
	if s := take(t, d, 2, 9); s != "A" {
		t.Fatalf("%q", s)
	}
}

// P12.3: the register 0 tells whether a byte waits, and whether there is no room.
func TestStateRegister(t *testing.T) {
	for limit := range api.MaxQueue + 1 {
		d := device(t, row(3, 7, limit))
		for n := range limit + 1 {
			want := 0
			if n > 0 {
				want++
			}
			if n == limit {
				want += 2
			}
			for range 2 { // it is read without changing anything
				if x := get(t, d, 3, 0); x != want {
					t.Fatal(limit, n, x, want)
				}
			}
			counts(t, d, 3, n, 0, 0)
			d.Byte(7, n)
		}
		if limit > 0 {
			get(t, d, 3, 1)
			if x := get(t, d, 3, 0); x != min(limit-1, 1) {
				t.Fatal(limit, x)
			}
		}
	}
}

// P12.3: the register 1 is the first byte, which goes; 0, if there is none.
func TestByteRegister(t *testing.T) {
	d := device(t, row(3, 7, 4))
	for _, b := range []int{200, 0, 255, 1, 77} {
		d.Byte(7, b)
	}
	for i, want := range []int{200, 0, 255, 1, 0, 0} {
		if b := get(t, d, 3, 1); b != want {
			t.Fatal(i, b, want)
		}
		counts(t, d, 3, max(3-i, 0), 1, 0)
	}
}

// P12.3: the registers 2 and 3 are what 256 leaves of their counts, each of its own.
func TestCountRegisters(t *testing.T) {
	d := device(t, row(3, 7, 0))
	for n := range 600 {
		if x := get(t, d, 3, 2); x != n%256 {
			t.Fatal("drops", n, x)
		}
		if x := get(t, d, 3, 3); x != 2*n%256 {
			t.Fatal("odd", n, x)
		}
		counts(t, d, 3, 0, n, 2*n)
		d.Byte(7, 1)
		d.Tone(7, [4]complex128{})
		d.Tone(7, [4]complex128{})
	}
}

func TestTake(t *testing.T) { // P12.3
	text := "\x00ab\xffc"
	for _, n := range append([]int{0, 1, 2, 3, 4, 5, 6, 16, 17, 1 << 32}, extremes...) {
		d := device(t, row(6, 1, 5))
		for i := range len(text) {
			d.Byte(1, int(text[i]))
		}
		many := min(max(n, 0), len(text))
		if s := take(t, d, 6, n); s != text[:many] {
			t.Fatalf("%d %q", n, s)
		}
		counts(t, d, 6, len(text)-many, 0, 0)
		for i := range many {
			byteIn(t, d, 1, i, 6, true) // what went has left room
		}
		byteIn(t, d, 1, 0, 6, false)
		if s := take(t, d, 6, 99); s[:len(text)-many] != text[many:] {
			t.Fatalf("%d %q", n, s)
		}
		if s := take(t, d, 6, n); s != "" {
			t.Fatalf("%d %q", n, s)
		}
		for _, owner := range append([]int{0, 1, 5, 7, 9}, extremes...) {
			if s, e := d.Take(owner, n); s != "" || e != api.ErrOwner {
				t.Fatal(owner, n, s, e)
			}
		}
	}
}

// P12.3: of who has no line all counts are 0.
func TestCountsOfNobody(t *testing.T) {
	d := device(t, row(2, 5, 1))
	d.Byte(5, 1)
	d.Byte(5, 2)
	d.Tone(5, [4]complex128{})
	counts(t, d, 2, 1, 1, 1)
	for _, owner := range append([]int{0, 1, 3, 5, 8, 9, 258, 1<<32 + 2}, extremes...) {
		counts(t, d, owner, 0, 0, 0)
	}
}

func TestSay(t *testing.T) { // P12.3
	d := device(t, row(2, 0, 1), row(7, 255, 0))
	if l := d.Log(); len(l) != 0 {
		t.Fatal(l)
	}
	var want []uart.Said
	for i, tick := range append([]int{5, 4, 4, 0}, extremes...) { // ticks need not rise
		for _, s := range []string{"", "hi", "\x00\xff", strings.Repeat("long", 100)} {
			for _, owner := range []int{7, 2} {
				if e := d.Say(tick, owner, s); e != api.OK {
					t.Fatal(tick, owner, s, e)
				}
				want = append(want, uart.Said{Tick: tick, Owner: owner, Channel: map[int]int{2: 0, 7: 255}[owner], Data: s})
			}
			for _, owner := range append([]int{0, 1, 3, 8, 9, 255}, extremes...) {
				if e := d.Say(tick, owner, s); e != api.ErrOwner {
					t.Fatal(tick, owner, s, e)
				}
			}
		}
		if l := d.Log(); !slices.Equal(l, want) {
			t.Fatal(i, l)
		}
	}
	counts(t, d, 2, 0, 0, 0)
	counts(t, d, 7, 0, 0, 0)
}

// line is what a line does, from the document's words.
type line struct {
	uart.Line
	waits           []byte
	came, went      int
	dropped, silent int
}

// same asks all that a line tells without changing it.
func (l *line) same(t *testing.T, d *uart.Device) {
	t.Helper()
	counts(t, d, l.Owner, len(l.waits), l.dropped, l.silent)
	state := 0
	if len(l.waits) > 0 {
		state = 1
	}
	if len(l.waits) == l.Limit {
		state += 2
	}
	for i, want := range []int{0: state, 2: l.dropped % 256, 3: l.silent % 256} {
		if i == 1 {
			continue
		}
		if n := get(t, d, l.Owner, i); n != want {
			t.Fatal(l, i, n, want)
		}
	}
}

// comes is a byte more.
func (l *line) comes(b byte) bool {
	l.came++
	if len(l.waits) == l.Limit {
		l.dropped++
		return false
	}
	l.waits = append(slices.Clone(l.waits), b)
	return true
}

// goes is the first n bytes.
func (l *line) goes(n int) string {
	n = min(n, len(l.waits))
	s := string(l.waits[:n])
	l.waits = l.waits[n:]
	l.went += n
	return s
}

// P12.2 to P12.5: for long, with all that can be done on lines side by side, each held against one that stands alone; forks go on by themselves.
func TestAgainstLines(t *testing.T) {
	type pair struct {
		d *uart.Device
		l []line
	}
	var rows []uart.Line
	for i, x := range all(0) {
		x.Limit = []int{0, 1, 2, 3, 7, 15, 16, 4}[i]
		rows = append(rows, x)
	}
	first := pair{d: device(t, rows...)}
	for _, x := range rows {
		first.l = append(first.l, line{Line: x})
	}
	pairs := []pair{first}
	state := uint32(7)
	draw := func(n int) int {
		state = state*1664525 + 1013904223
		return int(state>>8) % n
	}
	for step := range 20000 {
		p := pairs[draw(len(pairs))]
		l := &p.l[draw(len(p.l))]
		switch b := draw(256); draw(8) {
		case 0, 1, 2:
			byteIn(t, p.d, l.Channel, b, l.Owner, l.comes(byte(b)))
		case 3, 4:
			if o, ok := p.d.Tone(l.Channel, tone.Tones(b)); o != l.Owner || ok != l.comes(byte(b)) {
				t.Fatal(step, o, ok)
			}
		case 5:
			l.silent++
			if o, ok := p.d.Tone(l.Channel, [4]complex128{1i, 1 + 1i}); o != l.Owner || ok {
				t.Fatal(step, o, ok)
			}
		case 6:
			want := 0
			if s := l.goes(1); s != "" {
				want = int(s[0])
			}
			if n := get(t, p.d, l.Owner, 1); n != want {
				t.Fatal(step, n, want)
			}
		default:
			n := draw(6)
			if s, want := take(t, p.d, l.Owner, n), l.goes(n); s != want {
				t.Fatalf("%d %q %q", step, s, want)
			}
		}
		if l.came != l.went+l.dropped+len(l.waits) {
			t.Fatal("each byte waits, was taken, or dropped", l)
		}
		if step%3000 == 2999 {
			pairs = append(pairs, pair{p.d.Fork(), slices.Clone(p.l)})
		}
		for _, p := range pairs {
			for i := range p.l {
				p.l[i].same(t, p.d)
			}
		}
	}
}

// P12.4: what comes on one channel changes nothing of another one's.
func TestChannelsStayApart(t *testing.T) {
	d := device(t, all(2)...)
	for owner := 1; owner <= api.MaxClients; owner++ {
		byteIn(t, d, owner*31, owner, owner, true)
	}
	for range 10 {
		d.Byte(31, 99)
		d.Tone(31, tone.Tones(98))
		d.Tone(31, [4]complex128{})
	}
	d.Take(1, 1)
	d.Get(1, 1)
	for owner := 2; owner <= api.MaxClients; owner++ {
		counts(t, d, owner, 1, 0, 0)
		if s := take(t, d, owner, 9); s != string([]byte{byte(owner)}) {
			t.Fatalf("%d %q", owner, s)
		}
	}
	counts(t, d, 1, 0, 19, 10)
}

// P12.3, P4: a fork tells the same; what becomes of the one changes nothing of the other one.
func TestFork(t *testing.T) {
	d := device(t, row(1, 10, 3), row(2, 20, 1))
	for _, b := range []int{65, 66, 67, 68} {
		d.Byte(10, b)
	}
	d.Tone(20, [4]complex128{})
	d.Say(1, 2, "ahead")
	d.Take(1, 1)
	f := d.Fork()
	if f == d || f.Owner(10) != 1 || f.Owner(20) != 2 || f.Owner(30) != 0 {
		t.Fatal("not a fork")
	}
	counts(t, f, 1, 2, 1, 0)
	counts(t, f, 2, 0, 0, 1)
	byteIn(t, f, 10, 70, 1, true)
	byteIn(t, f, 10, 71, 1, false)
	byteIn(t, d, 10, 80, 1, true)
	f.Tone(20, [4]complex128{})
	f.Tone(20, [4]complex128{})
	f.Say(2, 1, "of the fork")
	d.Say(3, 1, "of the first one")
	d.Byte(20, 90)
	counts(t, d, 1, 3, 1, 0)
	counts(t, f, 1, 3, 2, 0)
	counts(t, d, 2, 1, 0, 1)
	counts(t, f, 2, 0, 0, 3)
	if s := take(t, d, 1, 9); s != "BCP" {
		t.Fatalf("%q", s)
	}
	if s := take(t, f, 1, 9); s != "BCF" {
		t.Fatalf("%q", s)
	}
	ahead := uart.Said{Tick: 1, Owner: 2, Channel: 20, Data: "ahead"}
	if l := d.Log(); !slices.Equal(l, []uart.Said{ahead, {Tick: 3, Owner: 1, Channel: 10, Data: "of the first one"}}) {
		t.Fatal(l)
	}
	if l := f.Log(); !slices.Equal(l, []uart.Said{ahead, {Tick: 2, Owner: 1, Channel: 10, Data: "of the fork"}}) {
		t.Fatal(l)
	}
}

// P4: whatever room is behind the list of what was said, a fork has none of it.
func TestForkOfLog(t *testing.T) {
	for n := range 20 {
		d := device(t, row(1, 1, 1))
		for i := range n {
			d.Say(i, 1, "ahead")
		}
		f := d.Fork()
		d.Say(100, 1, "first")
		f.Say(200, 1, "fork")
		a, b := d.Log(), f.Log()
		if len(a) != n+1 || len(b) != n+1 || a[n].Data != "first" || b[n].Data != "fork" || !slices.Equal(a[:n], b[:n]) {
			t.Fatal(n, a, b)
		}
	}
}

// P12.3: a nil device.
func TestNil(t *testing.T) {
	var d *uart.Device
	for _, n := range append([]int{0, 1, 2, 3, 4, 8, 255}, extremes...) {
		if o := d.Owner(n); o != 0 {
			t.Fatal(o)
		}
		byteIn(t, d, n, 65, 0, false)
		for _, x := range [][4]complex128{tone.Tones(65), {}} {
			if o, ok := d.Tone(n, x); o != 0 || ok {
				t.Fatal(o, ok)
			}
		}
		for _, k := range append([]int{0, 1, 4}, extremes...) {
			if x, e := d.Get(n, k); x != 0 || e != api.ErrNil {
				t.Fatal(x, e)
			}
			if s, e := d.Take(n, k); s != "" || e != api.ErrNil {
				t.Fatal(s, e)
			}
			if e := d.Say(k, n, "hi"); e != api.ErrNil {
				t.Fatal(e)
			}
		}
		counts(t, d, n, 0, 0, 0)
	}
	if l, f := d.Log(), d.Fork(); len(l) != 0 || f != nil {
		t.Fatal(l, f)
	}
}

// P1: a device that no call made, and one without lines, end every call.
func TestWithoutLines(t *testing.T) {
	for _, d := range []*uart.Device{{}, device(t), device(t).Fork()} {
		for _, n := range append([]int{0, 1, 8}, extremes...) {
			byteIn(t, d, n, n, 0, false)
			d.Tone(n, tone.Tones(n))
			d.Tone(n, [4]complex128{})
			if x, e := d.Get(n, 0); x != 0 || e != api.ErrOwner {
				t.Fatal(x, e)
			}
			if s, e := d.Take(n, n); s != "" || e != api.ErrOwner {
				t.Fatal(s, e)
			}
			if e := d.Say(n, n, "hi"); e != api.ErrOwner {
				t.Fatal(e)
			}
			counts(t, d, n, 0, 0, 0)
		}
		if l := d.Fork().Log(); len(l) != 0 {
			t.Fatal(l)
		}
	}
}

// P3: what is handed in stays as it is, spare room too, and is not kept.
func TestArgumentsStay(t *testing.T) {
	room := []uart.Line{row(2, 5, 1), row(1, 6, 0), row(7, 7, 7)}
	was := slices.Clone(room)
	d := device(t, room[:2]...)
	if !slices.Equal(room, was) {
		t.Fatal(room)
	}
	room[0], room[1] = row(3, 8, 9), row(4, 9, 9)
	if d.Owner(5) != 2 || d.Owner(6) != 1 || d.Owner(8) != 0 {
		t.Fatal("it is kept")
	}
	byteIn(t, d, 5, 1, 2, true)
	byteIn(t, d, 5, 1, 2, false)
}

// P3: what is answered is new memory.
func TestAnswersAreNew(t *testing.T) {
	d := device(t, row(2, 5, 1))
	for i := range 5 {
		d.Say(i, 2, "hi")
	}
	a, b := d.Log(), d.Log()
	a[0] = uart.Said{}
	_ = append(a[:2], uart.Said{}, uart.Said{})
	_ = append(b, uart.Said{Tick: 77})
	d.Say(5, 2, "ho")
	_ = append(b, uart.Said{Tick: 78})
	if l := d.Log(); !slices.Equal(l[:5], b) || l[5] != (uart.Said{Tick: 5, Owner: 2, Channel: 5, Data: "ho"}) {
		t.Fatal(l)
	}
}

// P6: devices stand by themselves, one beside the other.
func TestDevicesStayApart(t *testing.T) {
	a, b := device(t, row(1, 5, 1)), device(t, row(1, 5, 1), row(2, 6, 1))
	a.Byte(5, 65)
	a.Byte(5, 66)
	a.Tone(5, [4]complex128{})
	a.Say(1, 1, "hi")
	counts(t, b, 1, 0, 0, 0)
	if len(b.Log()) != 0 || a.Owner(6) != 0 {
		t.Fatal(a, b)
	}
}

func TestExample(t *testing.T) {
	d := device(t, row(1, 3, 1))
	byteIn(t, d, 3, 65, 1, true)
	byteIn(t, d, 3, 66, 1, false)
	if d.Drops(1) != 1 || get(t, d, 1, 0) != 3 {
		t.Fatal(d.Drops(1), get(t, d, 1, 0))
	}
}
