package quota_test

import (
	"math"
	"slices"
	"testing"

	"campanile/api"
	"campanile/clock"
	"campanile/quota"
)

// The calls have just these signatures.
var (
	_ func(int, ...int) (*quota.Account, api.Errno) = quota.New
	_ func(*quota.Account, int, int) bool           = (*quota.Account).Use
	_ func(*quota.Account, int, int) int            = (*quota.Account).Left
	_ func(*quota.Account, int) int                 = (*quota.Account).Total
	_ func(*quota.Account, int) int                 = (*quota.Account).Refused
	_ func(*quota.Account) int                      = (*quota.Account).Frame
	_ func(*quota.Account) *quota.Account           = (*quota.Account).Fork
)

// wild are numbers of any size.
var wild = []int{
	math.MinInt, math.MinInt + 1, math.MinInt32, -4096, -2, -1, 0, 1, 2, 3, 7, 8, 9, 10, 15, 16, 17,
	255, 4095, 4096, 4097, api.MaxNum - 1, api.MaxNum, api.MaxNum + 1, 1 << 32, math.MaxInt - 1, math.MaxInt,
}

// dice are numbers that come the same each time.
type dice uint32

// below is a number from 0 on, below n.
func (d *dice) below(n int) int {
	*d = *d*1664525 + 1013904223
	return int(uint32(*d)>>8) % n
}

// of is an account that may be.
func of(t *testing.T, f int, quotas ...int) *quota.Account {
	t.Helper()
	a, e := quota.New(f, quotas...)
	if a == nil || e != api.OK {
		t.Fatal(f, quotas, a, e)
	}
	return a
}

// use is a unit that was asked for.
type use struct {
	frame, owner int
	ok           bool
}

// plain is an account as the document's words tell it: all that was asked for, in order.
type plain struct {
	f      int
	quotas []int
	uses   []use
}

// frame is that in which the account is.
func (p *plain) frame() int {
	if len(p.uses) == 0 {
		return 0
	}
	return p.uses[len(p.uses)-1].frame
}

// count is how many were asked for by an owner with that answer; in one frame, or, below 0, in all.
func (p *plain) count(frame, owner int, ok bool) int {
	n := 0
	for _, u := range p.uses {
		if u.owner == owner && u.ok == ok && (frame < 0 || u.frame == frame) {
			n++
		}
	}
	return n
}

func (p *plain) left(tick, owner int) int {
	if owner < 1 || owner > len(p.quotas) || tick < 0 || tick > api.MaxNum || tick/p.f < p.frame() {
		return 0
	}
	return p.quotas[owner-1] - p.count(tick/p.f, owner, true)
}

func (p *plain) use(tick, owner int) bool {
	if owner < 1 || owner > len(p.quotas) || tick < 0 || tick > api.MaxNum || tick/p.f < p.frame() {
		return false
	}
	u := use{tick / p.f, owner, p.left(tick, owner) > 0}
	p.uses = append(p.uses, u)
	return u.ok
}

func (p *plain) fork() *plain {
	return &plain{p.f, p.quotas, slices.Clone(p.uses)}
}

// same holds an account against a plain one, by the calls that change nothing.
func same(t *testing.T, a *quota.Account, p *plain) {
	t.Helper()
	if a.Frame() != p.frame() {
		t.Fatal("frame", a.Frame(), p.frame())
	}
	ticks := []int{math.MinInt, -1, 0, api.MaxNum, api.MaxNum + 1, math.MaxInt}
	for d := -1; d <= 2; d++ { // from the last tick of the frame ahead to the first one but one behind
		ticks = append(ticks, p.frame()*p.f+d, (p.frame()+1)*p.f+d)
	}
	for _, owner := range []int{math.MinInt, -1, 0, 1, 2, 3, 4, 5, 6, 7, 8, 9, 10, math.MaxInt} {
		if got, want := a.Total(owner), p.count(-1, owner, true); got != want {
			t.Fatal("total", owner, got, want)
		}
		if got, want := a.Refused(owner), p.count(-1, owner, false); got != want {
			t.Fatal("refused", owner, got, want)
		}
		for _, tick := range ticks {
			if got, want := a.Left(tick, owner), p.left(tick, owner); got != want {
				t.Fatal("left", tick, owner, got, want)
			}
		}
	}
	if a.Frame() != p.frame() {
		t.Fatal("the account stays where it is")
	}
}

func TestNew(t *testing.T) { // P26.1
	ones := []int{1, 1, 1, 1, 1, 1, 1, 1, 1}
	for _, f := range wild {
		for n := range 10 {
			a, e := quota.New(f, ones[:n]...)
			switch {
			case !clock.Right(f):
				if a != nil || e != api.ErrArg {
					t.Fatal(f, n, a, e)
				}
			case n > api.MaxClients:
				if a != nil || e != api.ErrLimit {
					t.Fatal(f, n, a, e)
				}
			default:
				if a == nil || e != api.OK {
					t.Fatal(f, n, a, e)
				}
				same(t, a, &plain{f: f, quotas: ones[:n]})
			}
		}
	}
	for _, f := range []int{1, 4096} {
		a := of(t, f, 1)
		if !a.Use(f-1, 1) || a.Use(0, 1) || !a.Use(f, 1) || a.Frame() != 1 {
			t.Fatal("the edges of frames", f)
		}
	}
}

func TestNewOfQuotas(t *testing.T) { // P26.1
	for _, n := range wild {
		for place := range api.MaxClients {
			quotas := []int{1, 16, 2, 3, 15, 1, 4, 5}
			quotas[place] = n
			a, e := quota.New(10, quotas...)
			if n < 1 || n > 16 {
				if a != nil || e != api.ErrArg {
					t.Fatal(n, place, a, e)
				}
				continue
			}
			if a == nil || e != api.OK {
				t.Fatal(n, place, a, e)
			}
			same(t, a, &plain{f: 10, quotas: quotas})
		}
	}
	// Of several errors the one that is named first.
	many := []int{1, 2, 3, 0, 5, 6, 7, 8, 17}
	for _, c := range []struct {
		f      int
		quotas []int
		want   api.Errno
	}{{0, many, api.ErrArg}, {5, many, api.ErrLimit}, {5, many[:8], api.ErrArg}, {5, many[:3], api.OK}, {5, nil, api.OK}, {4097, nil, api.ErrArg}} {
		if a, e := quota.New(c.f, c.quotas...); e != c.want || (a == nil) != (e != api.OK) {
			t.Fatal(c, a, e)
		}
	}
}

func TestQuotasStay(t *testing.T) { // P3
	room := []int{2, 1, 9, 99}
	a := of(t, 10, room[:2]...)
	a.Use(0, 1)
	if !slices.Equal(room, []int{2, 1, 9, 99}) {
		t.Fatal("the argument has changed", room)
	}
	room[0], room[1] = 16, 16
	if a.Left(0, 1) != 1 || a.Left(0, 2) != 1 || a.Left(10, 1) != 2 || a.Left(10, 3) != 0 {
		t.Fatal("the argument is kept")
	}
}

func TestUse(t *testing.T) { // P26.1
	for n := 1; n <= 16; n++ {
		a := of(t, 7, 16, n)
		for frame := range 4 {
			for i := range 20 {
				if got := a.Use(7*frame+i%7, 2); got != (i < n) {
					t.Fatal(n, frame, i, got)
				}
				if a.Frame() != frame || a.Left(7*frame, 2) != max(n-i-1, 0) || a.Left(7*frame, 1) != 16 {
					t.Fatal(n, frame, i, a.Frame(), a.Left(7*frame, 2))
				}
			}
			if a.Total(2) != n*(frame+1) || a.Refused(2) != (20-n)*(frame+1) || a.Total(1) != 0 || a.Refused(1) != 0 {
				t.Fatal(n, frame, a.Total(2), a.Refused(2))
			}
		}
	}
}

// P26.1: within a frame ticks are asked in any order; of a frame ahead nothing is done, not even counted.
func TestUseOfTicks(t *testing.T) {
	a := of(t, 10, 2, 2)
	for i, c := range []struct {
		tick, owner int
		ok          bool
		frame       int
	}{
		{9, 1, true, 0}, {0, 1, true, 0}, {5, 1, false, 0}, {10, 2, true, 1}, {9, 1, false, 1}, {0, 2, false, 1}, {19, 1, true, 1},
		{10, 1, true, 1}, {11, 1, false, 1}, {995, 2, true, 99}, {990, 2, true, 99}, {989, 2, false, 99}, {999, 2, false, 99}, {19, 1, false, 99},
	} {
		if got := a.Use(c.tick, c.owner); got != c.ok || a.Frame() != c.frame {
			t.Fatal(i, c, got, a.Frame())
		}
	}
	if a.Total(1) != 4 || a.Refused(1) != 2 || a.Total(2) != 3 || a.Refused(2) != 1 {
		t.Fatal(a.Total(1), a.Refused(1), a.Total(2), a.Refused(2))
	}
}

func TestUseOfWrongOnes(t *testing.T) { // P26.1
	for owners := range api.MaxClients + 1 {
		quotas := slices.Repeat([]int{1}, owners)
		for _, owner := range wild {
			for _, tick := range wild {
				a, p := of(t, 10, quotas...), &plain{f: 10, quotas: quotas}
				if owners > 0 && a.Use(100, 1) != p.use(100, 1) {
					t.Fatal("the first one")
				}
				for range 2 {
					if got, want := a.Use(tick, owner), p.use(tick, owner); got != want {
						t.Fatal(owners, owner, tick, got, want)
					}
					same(t, a, p) // where nothing is done, nothing is counted
				}
			}
		}
	}
}

func TestFarTicks(t *testing.T) { // P26.1
	for _, f := range []int{1, 2, 1000, 4096} {
		a := of(t, f, 1)
		if a.Use(api.MaxNum+1, 1) || a.Frame() != 0 || a.Left(api.MaxNum+1, 1) != 0 || a.Left(api.MaxNum, 1) != 1 {
			t.Fatal(f, "above api.MaxNum")
		}
		if !a.Use(api.MaxNum, 1) || a.Frame() != api.MaxNum/f || a.Use(api.MaxNum, 1) || a.Use(0, 1) {
			t.Fatal(f, a.Frame())
		}
		if a.Use(api.MaxNum+f, 1) || a.Use(math.MaxInt, 1) || a.Total(1) != 1 || a.Refused(1) != 1 {
			t.Fatal(f, a.Total(1), a.Refused(1))
		}
	}
}

func TestLeft(t *testing.T) { // P26.2
	a := of(t, 10, 3, 16)
	a.Use(25, 1)
	a.Use(25, 1)
	for _, c := range []struct{ tick, owner, want int }{
		{20, 1, 1}, {29, 1, 1}, {30, 1, 3}, {39, 1, 3}, {1000, 1, 3}, {19, 1, 0}, {0, 1, 0}, {-1, 1, 0}, {math.MinInt, 1, 0},
		{20, 2, 16}, {30, 2, 16}, {19, 2, 0}, {20, 3, 0}, {30, 3, 0}, {20, 0, 0}, {20, -1, 0}, {20, 9, 0}, {30, math.MaxInt, 0}, {30, math.MinInt, 0},
		{api.MaxNum, 1, 3}, {api.MaxNum + 1, 1, 0}, {math.MaxInt, 1, 0},
	} {
		if got := a.Left(c.tick, c.owner); got != c.want || a.Frame() != 2 {
			t.Fatal(c, got, a.Frame())
		}
	}
	if !a.Use(20, 1) || a.Left(20, 1) != 0 || a.Left(30, 1) != 3 || a.Refused(1) != 0 {
		t.Fatal("what Left is asked of is not used, nor refused")
	}
}

func TestTotalAndRefused(t *testing.T) { // P26.2
	a := of(t, 10, 1, 2)
	for frame := range 5 {
		for range 3 {
			a.Use(10*frame, 1)
			a.Use(10*frame, 2)
		}
	}
	if a.Total(1) != 5 || a.Refused(1) != 10 || a.Total(2) != 10 || a.Refused(2) != 5 || a.Frame() != 4 {
		t.Fatal(a.Total(1), a.Refused(1), a.Total(2), a.Refused(2), a.Frame())
	}
	for _, owner := range wild {
		if owner != 1 && owner != 2 && (a.Total(owner) != 0 || a.Refused(owner) != 0) {
			t.Fatal(owner, a.Total(owner), a.Refused(owner))
		}
	}
}

func TestFork(t *testing.T) { // P26.2, P4
	a := of(t, 10, 2, 2)
	a.Use(10, 1)
	f := a.Fork()
	if f == a || f.Frame() != 1 || f.Left(10, 1) != 1 || f.Total(1) != 1 || !f.Use(10, 1) || f.Use(10, 1) || f.Use(10, 3) {
		t.Fatal("a fork is as what it was made of")
	}
	if a.Left(10, 1) != 1 || a.Total(1) != 1 || a.Refused(1) != 0 {
		t.Fatal("the fork was changed")
	}
	a.Use(50, 2)
	if f.Frame() != 1 || f.Left(10, 2) != 2 || f.Total(2) != 0 || !f.Use(15, 2) || a.Total(2) != 1 {
		t.Fatal("the first one was changed")
	}
}

func TestOfNil(t *testing.T) { // P26.2
	var a *quota.Account
	for _, owner := range wild {
		for _, tick := range wild {
			if a.Use(tick, owner) || a.Left(tick, owner) != 0 {
				t.Fatal(tick, owner)
			}
		}
		if a.Total(owner) != 0 || a.Refused(owner) != 0 {
			t.Fatal(owner)
		}
	}
	if a.Frame() != 0 || a.Fork() != nil {
		t.Fatal("nil")
	}
}

func TestOfOneThatNoCallMade(t *testing.T) { // P1: it does not panic
	for _, a := range []*quota.Account{{}, new(quota.Account).Fork()} {
		for _, owner := range wild {
			for _, tick := range wild {
				a.Use(tick, owner)
				a.Left(tick, owner)
			}
			a.Total(owner)
			a.Refused(owner)
		}
		a.Frame()
	}
}

// P26.1, P26.2, P4: any calls, with forks that go their own ways.
func TestAgainstPlain(t *testing.T) {
	d := dice(26)
	for range 60 {
		quotas := make([]int, d.below(9))
		for i := range quotas {
			quotas[i] = 1 + d.below(4)
		}
		f, tick := 1+d.below(12), 0
		accounts, plains := []*quota.Account{of(t, f, quotas...)}, []*plain{{f: f, quotas: quotas}}
		for range 250 {
			i := d.below(len(accounts))
			tick += d.below(3)
			asked, owner := tick-d.below(2)*d.below(2*f), d.below(len(quotas)+2)
			if got, want := accounts[i].Use(asked, owner), plains[i].use(asked, owner); got != want {
				t.Fatal(asked, owner, got, want)
			}
			if d.below(80) == 0 {
				accounts, plains = append(accounts, accounts[i].Fork()), append(plains, plains[i].fork())
			}
			for j := range accounts {
				same(t, accounts[j], plains[j])
			}
		}
	}
}

// P26.3: in no frame does an owner use more than its quota, and what others use plays no part.
func TestOthersPlayNoPart(t *testing.T) {
	d := dice(3)
	for range 100 {
		quotas := make([]int, api.MaxClients)
		for i := range quotas {
			quotas[i] = 1 + d.below(5)
		}
		me, f := 1+d.below(api.MaxClients), 1+d.below(9)
		crowded, alone := of(t, f, quotas...), of(t, f, quotas...)
		used := map[int]int{}
		for tick := range 60 {
			for range d.below(4) {
				if other := 1 + d.below(api.MaxClients); other != me {
					crowded.Use(tick, other)
				}
			}
			if a, b := crowded.Left(tick, me), alone.Left(tick, me); a != b {
				t.Fatal(tick, a, b)
			}
			for range d.below(3) {
				a, b := crowded.Use(tick, me), alone.Use(tick, me)
				if a != b {
					t.Fatal(tick, a, b)
				}
				if a {
					used[tick/f]++
				}
			}
			if used[tick/f] > quotas[me-1] || crowded.Total(me) != alone.Total(me) || crowded.Refused(me) != alone.Refused(me) {
				t.Fatal(tick, used, quotas)
			}
		}
	}
}

func TestExample(t *testing.T) {
	a := of(t, 10, 2)
	for i, want := range []bool{true, true, false, true} {
		if tick := []int{1, 2, 3, 10}[i]; a.Use(tick, 1) != want {
			t.Fatal(tick)
		}
	}
}
