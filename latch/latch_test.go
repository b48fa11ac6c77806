package latch_test

import (
	"math"
	"testing"

	"campanile/api"
	"campanile/latch"
)

// The calls have just these signatures.
var (
	_ func(int) *latch.Board                 = latch.New
	_ func(*latch.Board, int, int) api.Errno = (*latch.Board).Raise
	_ func(*latch.Board, int) int            = (*latch.Board).Open
	_ func(*latch.Board, int) int            = (*latch.Board).Take
	_ func(*latch.Board, int) int            = (*latch.Board).Latched
	_ func(*latch.Board, int) int            = (*latch.Board).Delivered
	_ func(*latch.Board) *latch.Board        = (*latch.Board).Fork
)

// numbers are owners, and such that are none; bits, and such that are none.
var numbers = []int{
	math.MinInt, math.MinInt + 1, math.MinInt32, -256, -2, -1, 0, 1, 2, 3, 7, 8, 9, 10, 99,
	128, 254, 255, 256, 257, 511, math.MaxInt32, 1 << 32, math.MaxInt - 1, math.MaxInt,
}

// plain is a board as the document's words tell it: of each owner the bits, one by one.
type plain struct {
	owners             int
	latched, delivered map[int]map[int]bool
}

// board is a plain one, with nobody's bits.
func board(owners int) *plain {
	p := &plain{owners: owners, latched: map[int]map[int]bool{}, delivered: map[int]map[int]bool{}}
	for owner := 1; owner <= owners; owner++ {
		p.latched[owner], p.delivered[owner] = map[int]bool{}, map[int]bool{}
	}
	return p
}

// sum is the number of some bits.
func sum(bits map[int]bool) int {
	n := 0
	for b := range bits {
		n += b
	}
	return n
}

func (p *plain) raise(owner, bits int) api.Errno {
	switch {
	case owner < 1 || owner > p.owners:
		return api.ErrOwner
	case bits < 0 || bits > 255:
		return api.ErrArg
	}
	for b := 1; b < 256; b *= 2 {
		if bits/b%2 == 1 {
			p.latched[owner][b] = true
		}
	}
	return api.OK
}

func (p *plain) open(owner int) int {
	out := sum(p.latched[owner])
	for b := range p.latched[owner] {
		p.delivered[owner][b] = true
	}
	clear(p.latched[owner])
	return out
}

func (p *plain) take(owner int) int {
	out := sum(p.delivered[owner])
	clear(p.delivered[owner])
	return out
}

func (p *plain) fork() *plain {
	f := board(p.owners)
	for owner := 1; owner <= p.owners; owner++ {
		for b := range p.latched[owner] {
			f.latched[owner][b] = true
		}
		for b := range p.delivered[owner] {
			f.delivered[owner][b] = true
		}
	}
	return f
}

// same tells of all owners, and of such that are none, whether a board's bits are those of a plain one.
func same(t *testing.T, b *latch.Board, p *plain) {
	t.Helper()
	for _, owner := range numbers {
		if got, want := b.Latched(owner), sum(p.latched[owner]); got != want {
			t.Fatal("latched", owner, got, want)
		}
		if got, want := b.Delivered(owner), sum(p.delivered[owner]); got != want {
			t.Fatal("delivered", owner, got, want)
		}
	}
	for owner := range 12 {
		if b.Latched(owner) != sum(p.latched[owner]) || b.Delivered(owner) != sum(p.delivered[owner]) {
			t.Fatal(owner, b.Latched(owner), b.Delivered(owner))
		}
	}
}

// dice are numbers that come the same each time.
type dice uint32

// below is a number from 0 on, below n.
func (d *dice) below(n int) int {
	*d = *d*1664525 + 1013904223
	return int(uint32(*d)>>8) % n
}

func TestNew(t *testing.T) { // P22.1
	for _, n := range numbers {
		owners := min(max(n, 0), api.MaxClients)
		b := latch.New(n)
		if b == nil {
			t.Fatal(n)
		}
		same(t, b, board(owners))
		for _, owner := range numbers {
			want := api.ErrOwner
			if owner >= 1 && owner <= owners {
				want = api.OK
			}
			if e := b.Raise(owner, 255); e != want {
				t.Fatal(n, owner, e)
			}
		}
	}
}

func TestRaise(t *testing.T) { // P22.1
	for _, owners := range []int{0, 1, 2, 7, 8} {
		for _, owner := range numbers {
			for _, bits := range numbers {
				b, p := latch.New(owners), board(owners)
				if e, want := b.Raise(owner, bits), p.raise(owner, bits); e != want {
					t.Fatal(owners, owner, bits, e, want)
				}
				same(t, b, p) // who gets an error has changed nothing
			}
		}
	}
	// Of two errors the one that is named first.
	if b := latch.New(2); b.Raise(3, -1) != api.ErrOwner || b.Raise(2, -1) != api.ErrArg {
		t.Fatal("errors")
	}
}

func TestRaiseOfAllBits(t *testing.T) { // P22.1: these are latched, too
	for a := range 256 {
		for c := range 256 {
			b := latch.New(1)
			if b.Raise(1, a) != api.OK || b.Raise(1, c) != api.OK || b.Latched(1) != a|c || b.Delivered(1) != 0 {
				t.Fatal(a, c, b.Latched(1), b.Delivered(1))
			}
			if got := b.Open(1); got != a|c {
				t.Fatal(a, c, got)
			}
		}
	}
}

func TestOpen(t *testing.T) { // P22.1
	b := latch.New(3)
	b.Raise(2, 5)
	if b.Open(2) != 5 || b.Latched(2) != 0 || b.Delivered(2) != 5 {
		t.Fatal("delivered, and latched no more")
	}
	if b.Open(2) != 0 || b.Delivered(2) != 5 {
		t.Fatal("what was delivered stays")
	}
	b.Raise(2, 6)
	if b.Delivered(2) != 5 || b.Open(2) != 6 || b.Delivered(2) != 7 {
		t.Fatal("the answer is what was latched, not what is delivered in all")
	}
	b.Raise(2, 0)
	if b.Open(2) != 0 || b.Delivered(2) != 7 {
		t.Fatal("no bits")
	}
}

func TestTake(t *testing.T) { // P22.1
	b := latch.New(3)
	b.Raise(2, 5)
	if b.Take(2) != 0 || b.Latched(2) != 5 {
		t.Fatal("what is latched is not taken")
	}
	b.Open(2)
	b.Raise(2, 8)
	if b.Take(2) != 5 || b.Delivered(2) != 0 || b.Latched(2) != 8 || b.Take(2) != 0 {
		t.Fatal("once")
	}
	if b.Open(2) != 8 || b.Take(2) != 8 {
		t.Fatal("and what came behind")
	}
}

func TestOfWhoIsNotThere(t *testing.T) { // P22.1, P22.2
	for _, owners := range []int{-1, 0, 1, 2, 8} {
		b, p := latch.New(owners), board(owners)
		for owner := 1; owner <= owners; owner++ {
			b.Raise(owner, 2*owner+1)
			p.raise(owner, 2*owner+1)
			b.Open(owner)
			p.open(owner)
			b.Raise(owner, 64)
			p.raise(owner, 64)
		}
		for _, owner := range numbers {
			if owner >= 1 && owner <= owners {
				continue
			}
			if b.Open(owner) != 0 || b.Take(owner) != 0 || b.Latched(owner) != 0 || b.Delivered(owner) != 0 {
				t.Fatal(owners, owner)
			}
			same(t, b, p)
		}
	}
}

func TestOfNil(t *testing.T) { // P22.2
	var b *latch.Board
	for _, owner := range numbers {
		for _, bits := range numbers {
			if e := b.Raise(owner, bits); e != api.ErrNil {
				t.Fatal(owner, bits, e)
			}
		}
		if b.Open(owner) != 0 || b.Take(owner) != 0 || b.Latched(owner) != 0 || b.Delivered(owner) != 0 {
			t.Fatal(owner)
		}
	}
	if b.Fork() != nil {
		t.Fatal("fork")
	}
}

// act does one thing, the same to both, and tells of what is unlike.
func act(t *testing.T, d *dice, b *latch.Board, p *plain) {
	t.Helper()
	owner := d.below(11)
	switch d.below(5) {
	case 0, 1:
		bits := 1 << d.below(9)
		if d.below(3) == 0 {
			bits = d.below(300) - 20
		}
		if got, want := b.Raise(owner, bits), p.raise(owner, bits); got != want {
			t.Fatal("raise", owner, bits, got, want)
		}
	case 2, 3:
		if got, want := b.Open(owner), p.open(owner); got != want {
			t.Fatal("open", owner, got, want)
		}
	case 4:
		if got, want := b.Take(owner), p.take(owner); got != want {
			t.Fatal("take", owner, got, want)
		}
	}
}

// P22.1, P22.2, P4: any calls, with forks that go their own ways.
func TestAgainstPlain(t *testing.T) {
	d := dice(5)
	for range 60 {
		owners := d.below(10)
		boards := []*latch.Board{latch.New(owners)}
		plains := []*plain{board(min(owners, api.MaxClients))}
		for range 300 {
			i := d.below(len(boards))
			act(t, &d, boards[i], plains[i])
			if d.below(60) == 0 {
				boards, plains = append(boards, boards[i].Fork()), append(plains, plains[i].fork())
			}
			for k := range boards {
				same(t, boards[k], plains[k])
			}
		}
	}
}

func TestFork(t *testing.T) { // P22.2, P4
	b := latch.New(2)
	b.Raise(1, 3)
	b.Open(1)
	b.Raise(1, 4)
	f := b.Fork()
	if f == b || f.Latched(1) != 4 || f.Delivered(1) != 3 || f.Raise(2, 1) != api.OK || f.Raise(3, 1) != api.ErrOwner {
		t.Fatal("a fork is as what it was made of")
	}
	f.Open(1)
	if b.Latched(1) != 4 || b.Delivered(1) != 3 || b.Latched(2) != 0 {
		t.Fatal("the fork was changed")
	}
	b.Take(1)
	if f.Delivered(1) != 7 {
		t.Fatal("the first one was changed")
	}
}

// P22.3: what is raised between two Opens is delivered at the second one, each bit once, whatever others raise.
func TestEachBitOnce(t *testing.T) {
	d := dice(9)
	for range 500 {
		quiet, loud := latch.New(1), latch.New(8)
		for range 20 {
			raised := 0
			for range d.below(6) {
				bits := d.below(256)
				raised |= bits
				quiet.Raise(1, bits)
				loud.Raise(1, bits)
				loud.Raise(2+d.below(7), d.below(256))
			}
			other := 2 + d.below(7)
			loud.Open(other)
			if d.below(2) == 0 {
				loud.Take(other)
			}
			if a, b := quiet.Open(1), loud.Open(1); a != raised || b != raised {
				t.Fatal(raised, a, b)
			}
			if a, b := quiet.Open(1), loud.Open(1); a != 0 || b != 0 {
				t.Fatal("twice", a, b)
			}
			if d.below(3) == 0 {
				if a, b := quiet.Take(1), loud.Take(1); a != b {
					t.Fatal("taken", a, b)
				}
			}
		}
	}
}

func TestExample(t *testing.T) {
	b := latch.New(1)
	b.Raise(1, 1)
	b.Raise(1, 4)
	if b.Open(1) != 5 || b.Open(1) != 0 || b.Take(1) != 5 {
		t.Fatal("example")
	}
}
