package slot_test

import (
	"math"
	"slices"
	"testing"

	"campanile/api"
	"campanile/slot"
)

// The calls have just these signatures.
var (
	_ func(int, ...api.Slot) (*slot.Table, api.Errno) = slot.New
	_ func(*slot.Table, int) slot.Step                = (*slot.Table).At
	_ func(*slot.Table, int) []int                    = (*slot.Table).Starts
	_ func(*slot.Table, int) int                      = (*slot.Table).Units
	_ func(*slot.Table, int, int) int                 = (*slot.Table).Next
	_ func(*slot.Table, api.Span, int) int            = (*slot.Table).Between

	_ = struct{ Owner, Unit, Phase int }(slot.Step{})
)

// extremes are numbers of which some go round if anything is added to them.
var extremes = []int{math.MinInt, math.MinInt + 1, math.MinInt32, -1, api.MaxNum, api.MaxNum + 1, math.MaxInt - 1, math.MaxInt}

// wrong are frame lengths that are not right.
var wrong = []int{math.MinInt, -api.MaxFrame, -1, 0, api.MaxFrame + 1, 1 << 32, math.MaxInt}

// nobody is what the bus is where it is nobody's.
var nobody = slot.Step{Unit: -1}

func sl(owner, from, to int) api.Slot { return api.Slot{Owner: owner, From: from, To: to} }

func sp(from, to int) api.Span { return api.Span{From: from, To: to} }

// table is one that may be.
func table(t *testing.T, f int, l ...api.Slot) *slot.Table {
	t.Helper()
	x, e := slot.New(f, l...)
	if e != api.OK || x == nil {
		t.Fatal(f, l, e)
	}
	return x
}

// dice are numbers that come the same each time.
type dice uint32

// below is a number from 0 on, below n.
func (d *dice) below(n int) int {
	*d = *d*1664525 + 1013904223
	return int(uint32(*d)>>8) % n
}

// drawn is a frame, and slots that do not meet, in no order: some have idle
// ticks, some have no unit, and some touch.
func drawn(d *dice) (int, []api.Slot) {
	f := 1 + d.below(70)
	var l []api.Slot
	for at := d.below(5); at < f; at += d.below(3) * d.below(9) {
		to := min(f, at+1+d.below(15))
		l = append(l, sl(1+d.below(api.MaxClients-d.below(6)), at, to))
		at = to
	}
	for i := range l {
		k := d.below(i + 1)
		l[i], l[k] = l[k], l[i]
	}
	return f, l
}

// plain is the steps of a frame, from the document's words: unit by unit, as
// many as have room, and idle ticks behind them.
func plain(f int, l []api.Slot) []slot.Step {
	out := make([]slot.Step, f)
	for i := range out {
		out[i] = nobody
	}
	for _, s := range l {
		for i := s.From; i < s.To; i++ {
			out[i].Owner = s.Owner
		}
		for unit, at := 0, s.From; at+4 <= s.To; unit, at = unit+1, at+4 {
			for phase := range 4 {
				out[at+phase] = slot.Step{Owner: s.Owner, Unit: unit, Phase: phase}
			}
		}
	}
	return out
}

// begins tells whether one of an owner's units begins at a step.
func begins(s slot.Step, owner int) bool {
	return s.Owner == owner && s.Unit >= 0 && s.Phase == 0
}

// P17.1: what may not be, and where two meet.
func TestNew(t *testing.T) {
	for _, c := range []struct {
		l []api.Slot
		e api.Errno
	}{
		{nil, api.OK},
		{[]api.Slot{sl(1, 0, 10)}, api.OK},
		{[]api.Slot{sl(api.MaxClients, 9, 10)}, api.OK}, // one without a unit may be
		{[]api.Slot{sl(0, 0, 4)}, api.ErrArg},
		{[]api.Slot{sl(api.MaxClients+1, 0, 4)}, api.ErrArg},
		{[]api.Slot{sl(1<<32+1, 0, 4)}, api.ErrArg},
		{[]api.Slot{{}}, api.ErrArg},
		{[]api.Slot{sl(1, 4, 4)}, api.ErrArg},
		{[]api.Slot{sl(1, 5, 4)}, api.ErrArg},
		{[]api.Slot{sl(1, -1, 4)}, api.ErrArg},
		{[]api.Slot{sl(1, -4, 0)}, api.ErrArg},
		{[]api.Slot{sl(1, 4, 11)}, api.ErrArg},
		{[]api.Slot{sl(1, 10, 11)}, api.ErrArg},
		{[]api.Slot{sl(1, 0, 4), sl(2, 4, 8), sl(1, 8, 10)}, api.OK}, // they touch
		{[]api.Slot{sl(1, 8, 10), sl(1, 4, 8), sl(1, 0, 4)}, api.OK}, // in any order
		{[]api.Slot{sl(1, 0, 4), sl(2, 3, 8)}, api.ErrFit},
		{[]api.Slot{sl(2, 3, 8), sl(1, 0, 4)}, api.ErrFit},
		{[]api.Slot{sl(1, 0, 4), sl(1, 3, 8)}, api.ErrFit}, // of one owner too
		{[]api.Slot{sl(1, 0, 4), sl(1, 0, 4)}, api.ErrFit},
		{[]api.Slot{sl(1, 0, 10), sl(2, 4, 5)}, api.ErrFit},
		{[]api.Slot{sl(1, 4, 5), sl(2, 0, 10)}, api.ErrFit},
		{[]api.Slot{sl(1, 0, 2), sl(2, 5, 7), sl(3, 2, 5), sl(4, 6, 9)}, api.ErrFit},
		{[]api.Slot{sl(1, 0, 4), sl(2, 3, 8), sl(0, 0, 4)}, api.ErrFit}, // slot by slot
		{[]api.Slot{sl(1, 0, 4), sl(0, 5, 8), sl(2, 3, 8)}, api.ErrArg},
		{[]api.Slot{sl(1, 0, 4), sl(0, 3, 8)}, api.ErrArg}, // of one slot what is named first
		{[]api.Slot{sl(1, 0, 4), sl(2, 3, 11)}, api.ErrArg},
	} {
		x, e := slot.New(10, c.l...)
		if e != c.e || (x == nil) != (e != api.OK) {
			t.Error(c, x, e)
		}
	}
}

// P17.1: which frames there are; of a wrong one nothing else is asked.
func TestNewOfFrames(t *testing.T) {
	for _, f := range wrong {
		for _, l := range [][]api.Slot{nil, {sl(1, 0, 1)}, {sl(1, 0, 1), sl(1, 0, 1)}} {
			if x, e := slot.New(f, l...); x != nil || e != api.ErrArg {
				t.Error(f, l, x, e)
			}
		}
	}
	for _, f := range []int{1, 2, api.MaxFrame - 1, api.MaxFrame} {
		x := table(t, f, sl(3, f-1, f))
		if s := x.At(f - 1); s != (slot.Step{Owner: 3, Unit: -1}) {
			t.Error(f, s)
		}
		if x, e := slot.New(f, sl(3, f-1, f+1)); x != nil || e != api.ErrArg {
			t.Error(f, x, e)
		}
	}
}

// P1, P5: numbers of any size.
func TestNewOfExtremes(t *testing.T) {
	for _, a := range extremes {
		for _, b := range extremes {
			for _, s := range []api.Slot{sl(1, a, b), sl(1, a, 10), sl(1, 0, b), sl(a, 0, 4), sl(a, b, a), sl(b, a, b)} {
				if x, e := slot.New(20, sl(2, 15, 20), s); x != nil || e != api.ErrArg {
					t.Error(s, x, e)
				}
			}
		}
	}
}

// P17.1: no limit of their number is named but that they do not meet.
func TestManySlots(t *testing.T) {
	var l []api.Slot
	for at := range api.MaxFrame / 4 {
		l = append(l, sl(1+at%8, 4*at, 4*at+4))
	}
	x := table(t, api.MaxFrame, l...)
	for owner := 1; owner <= 8; owner++ {
		if x.Units(owner) != 128 || x.Starts(owner)[127] != 4*(1016+owner-1) {
			t.Error(owner, x.Starts(owner))
		}
	}
	if x, e := slot.New(api.MaxFrame, append(l, sl(1, 4095, 4096))...); x != nil || e != api.ErrFit {
		t.Error(x, e)
	}
}

// The document's example.
func TestExample(t *testing.T) {
	x := table(t, 20, sl(1, 4, 14))
	if l := x.Starts(1); !slices.Equal(l, []int{4, 8}) || x.Units(1) != 2 {
		t.Error(l, x.Units(1))
	}
	for tick, want := range map[int]slot.Step{
		3:  nobody,
		4:  {Owner: 1, Unit: 0, Phase: 0},
		7:  {Owner: 1, Unit: 0, Phase: 3},
		8:  {Owner: 1, Unit: 1, Phase: 0},
		11: {Owner: 1, Unit: 1, Phase: 3},
		12: {Owner: 1, Unit: -1},
		13: {Owner: 1, Unit: -1},
		14: nobody,
		29: {Owner: 1, Unit: 1, Phase: 1},
	} {
		if s := x.At(tick); s != want {
			t.Error(tick, s)
		}
	}
}

// P17.1, P17.3: the steps of one frame are those of each, those far behind too.
func TestAt(t *testing.T) {
	d := dice(1)
	for range 300 {
		f, l := drawn(&d)
		x, steps := table(t, f, l...), plain(f, l)
		far := math.MaxInt - math.MaxInt%f - 3*f
		for tick := range 3 * f {
			for _, from := range []int{0, 7 * f, (api.MaxNum + 1) * f, far} {
				if s := x.At(from + tick); s != steps[tick%f] {
					t.Fatal(f, l, from+tick, s, steps[tick%f])
				}
			}
		}
		for _, tick := range []int{-1, -2, -f, -f - 1, -100 * f, math.MinInt32, math.MinInt} {
			if s := x.At(tick); s != nobody {
				t.Fatal(f, l, tick, s)
			}
		}
	}
	x := table(t, 1, sl(5, 0, 1))
	for _, tick := range []int{0, 1, api.MaxNum, api.MaxNum + 1, math.MaxInt} {
		if s := x.At(tick); s != (slot.Step{Owner: 5, Unit: -1}) {
			t.Error(tick, s)
		}
	}
}

// owners are all that may have slots, and some that have none.
var owners = append([]int{0, 1, 2, 3, 4, 5, 6, 7, 8, 9, 10, 1<<32 + 1}, extremes...)

// P17.2: rising, however the slots stand.
func TestStarts(t *testing.T) {
	d := dice(2)
	for range 500 {
		f, l := drawn(&d)
		x, steps := table(t, f, l...), plain(f, l)
		for _, owner := range owners {
			var want []int
			for at, s := range steps {
				if begins(s, owner) && owner > 0 {
					want = append(want, at)
				}
			}
			if got := x.Starts(owner); !slices.Equal(got, want) {
				t.Fatal(f, l, owner, got, want)
			}
			if got := x.Units(owner); got != len(want) {
				t.Fatal(f, l, owner, got, want)
			}
		}
	}
}

// nextOf goes from tick to tick, and gives up when a whole frame had none.
func nextOf(steps []slot.Step, tick, owner int) int {
	for i := range steps {
		if begins(steps[(tick+i)%len(steps)], owner) {
			return tick + i
		}
	}
	return -1
}

// P17.2: the next one, in this frame or in the one behind it.
func TestNext(t *testing.T) {
	d := dice(3)
	for range 300 {
		f, l := drawn(&d)
		x, steps := table(t, f, l...), plain(f, l)
		for _, owner := range owners {
			for tick := range 2*f + 1 {
				if got, want := x.Next(tick, owner), nextOf(steps, tick, owner); got != want {
					t.Fatal(f, l, tick, owner, got, want)
				}
			}
			for tick := api.MaxNum - 2; tick <= api.MaxNum; tick++ { // the answer may lie behind what may be asked for
				if got, want := x.Next(tick, owner), nextOf(steps, tick, owner); got != want {
					t.Fatal(f, l, tick, owner, got, want)
				}
			}
			for _, tick := range []int{-1, -f, math.MinInt, api.MaxNum + 1, math.MaxInt} {
				if got := x.Next(tick, owner); got != -1 {
					t.Fatal(f, l, tick, owner, got)
				}
			}
		}
	}
}

func TestNextEdges(t *testing.T) { // P17.2
	x := table(t, 4096, sl(1, 4090, 4096), sl(2, 0, 4), sl(3, 8, 11))
	for _, c := range []struct{ tick, owner, want int }{
		{0, 1, 4090},
		{4090, 1, 4090},
		{4091, 1, 8186},
		{0, 2, 0},
		{1, 2, 4096},
		{api.MaxNum, 1, api.MaxNum + 4091},
		{api.MaxNum, 2, api.MaxNum + 1},
		{api.MaxNum + 1, 2, -1},
		{0, 3, -1}, // its slot has no unit
		{-1, 2, -1},
	} {
		if got := x.Next(c.tick, c.owner); got != c.want {
			t.Error(c, got)
		}
	}
	if got := table(t, 4, sl(1, 0, 4)).Next(api.MaxNum-3, 1); got != api.MaxNum-3 {
		t.Error(got)
	}
}

// P17.2: tick by tick.
func TestBetween(t *testing.T) {
	d := dice(4)
	for range 60 {
		f, l := drawn(&d)
		x, steps := table(t, f, l...), plain(f, l)
		for _, owner := range owners {
			for range 60 {
				from := d.below(3*f+2) - 1
				to := from + d.below(2*f+3) - 1
				want := 0
				for tick := from; from >= 0 && tick < to; tick++ {
					if owner > 0 && begins(steps[tick%f], owner) {
						want++
					}
				}
				if got := x.Between(sp(from, to), owner); got != want {
					t.Fatal(f, l, from, to, owner, got, want)
				}
			}
		}
	}
}

func TestBetweenEdges(t *testing.T) { // P17.2
	x := table(t, 20, sl(1, 4, 14), sl(2, 16, 20), sl(1, 0, 3))
	for _, c := range []struct {
		s           api.Span
		owner, want int
	}{
		{sp(4, 5), 1, 1},
		{sp(5, 8), 1, 0},
		{sp(5, 9), 1, 1},
		{sp(4, 9), 1, 2},
		{sp(0, 20), 1, 2},
		{sp(0, 40), 1, 4},
		{sp(9, 29), 1, 2},
		{sp(16, 17), 2, 1},
		{sp(17, 36), 2, 0},
		{sp(17, 37), 2, 1},
		{sp(4, 4), 1, 0},
		{sp(9, 4), 1, 0},
		{sp(-1, 9), 1, 0},
		{sp(-20, 0), 1, 0},
		{sp(0, api.MaxNum), 2, api.MaxNum / 20}, // the last frame ends ahead of its unit
		{sp(0, api.MaxNum+1), 2, 0},
		{sp(api.MaxNum, api.MaxNum+1), 2, 0},
		{sp(0, math.MaxInt), 2, 0},
		{sp(math.MinInt, math.MaxInt), 2, 0},
		{sp(math.MinInt, api.MaxNum), 2, 0},
		{sp(0, 20), 0, 0},
		{sp(0, 20), 3, 0},
		{sp(0, 20), -1, 0},
	} {
		if got := x.Between(c.s, c.owner); got != c.want {
			t.Error(c, got)
		}
	}
	whole := table(t, 4, sl(7, 0, 4))
	if got := whole.Between(sp(api.MaxNum-4, api.MaxNum), 7); got != 1 {
		t.Error(got)
	}
	if got := whole.Between(sp(0, api.MaxNum), 7); got != 1<<29 {
		t.Error(got)
	}
}

// P17.3: each row of as many ticks as a frame has.
func TestEachRowHasAsMany(t *testing.T) {
	d := dice(5)
	for range 100 {
		f, l := drawn(&d)
		x := table(t, f, l...)
		for owner := 1; owner <= api.MaxClients; owner++ {
			for from := range 2 * f {
				n := 0
				for tick := from; tick < from+f; tick++ {
					if begins(x.At(tick), owner) {
						n++
					}
				}
				if n != x.Units(owner) || n != x.Between(sp(from, from+f), owner) {
					t.Fatal(f, l, owner, from, n, x.Units(owner), x.Between(sp(from, from+f), owner))
				}
			}
			if n := x.Between(sp(api.MaxNum-f, api.MaxNum), owner); n != x.Units(owner) {
				t.Fatal(f, l, owner, n)
			}
		}
	}
}

// P17.3: a tick is of one owner at most, and it is the one in whose slot it lies.
func TestOneOwnerAtMost(t *testing.T) {
	d := dice(6)
	for range 200 {
		f, l := drawn(&d)
		x := table(t, f, l...)
		for tick := range f {
			whose := 0
			for _, s := range l {
				if s.From <= tick && tick < s.To {
					whose = whose*100 + s.Owner
				}
			}
			if s := x.At(tick); s.Owner != whose || s.Unit < 0 && s.Phase != 0 {
				t.Fatal(f, l, tick, s, whose)
			}
		}
	}
}

// P17.2: nobody's, none, 0, -1. P1: of one that no call made nothing is said but that no call panics.
func TestNil(t *testing.T) {
	var x *slot.Table
	for _, n := range append([]int{0, 1, 2}, extremes...) {
		if s := x.At(n); s != nobody {
			t.Error(n, s)
		}
		if x.Starts(n) != nil || x.Units(n) != 0 || x.Next(n, 1) != -1 || x.Next(1, n) != -1 || x.Between(sp(0, 9), n) != 0 || x.Between(sp(n, n), 1) != 0 {
			t.Error(n)
		}
		var made slot.Table
		made.At(n)
		made.Starts(n)
		made.Units(n)
		made.Next(n, n)
		made.Between(sp(0, n), n)
	}
}

// P3: the list stays as it is, spare room too, and isn't kept; a list that is answered is new each time.
func TestListsStay(t *testing.T) {
	room := []api.Slot{sl(2, 12, 20), sl(1, 4, 12), sl(2, 0, 4), sl(9, 9, 9), sl(8, 8, 8)}
	was := slices.Clone(room)
	x := table(t, 20, room[:3]...)
	steps := plain(20, was[:3])
	l := x.Starts(2)
	if !slices.Equal(room, was) {
		t.Fatal("the list has changed", room)
	}
	clear(room)
	for i := range l {
		l[i] = 1
	}
	l = append(l, 5)
	if got := x.Starts(2); !slices.Equal(got, []int{0, 12, 16}) {
		t.Fatal(got)
	}
	for tick := range 40 {
		if s := x.At(tick); s != steps[tick%20] {
			t.Fatal(tick, s)
		}
	}
}
