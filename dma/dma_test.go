package dma_test

import (
	"math"
	"slices"
	"strings"
	"testing"

	"campanile/api"
	"campanile/dma"
	"campanile/mem"
	"campanile/region"
)

// The calls have just these signatures.
var (
	_ func(*mem.Memory, *region.Table) *dma.Engine              = dma.New
	_ func(*dma.Engine, int, int, int, int) (string, api.Errno) = (*dma.Engine).Read
	_ func(*dma.Engine, int, int, int, string) api.Errno        = (*dma.Engine).Write
	_ func(*dma.Engine) []dma.Record                            = (*dma.Engine).Records
	_ func(*dma.Engine, int) (int, int)                         = (*dma.Engine).Moved
	_ func(*dma.Engine, *mem.Memory) *dma.Engine                = (*dma.Engine).Fork
)

const size = 500 // of the memory: the last region ends behind it

// extremes are numbers of which some go round if anything is added to them.
var extremes = []int{math.MinInt, math.MinInt + 1, math.MinInt32, -1, math.MaxInt32, math.MaxInt - 1, math.MaxInt}

// owners are such that have a region, and such that have none.
var owners = append([]int{0, 1, 2, 3, 7, 8, 9}, extremes...)

// regions are the ones of most of the tests.
func regions() []api.Region {
	return []api.Region{
		{Owner: 1, Base: 200, Size: 64},
		{Owner: 2, Base: 264, Size: 40},
		{Owner: 7, Base: 150, Size: 10},
		{Owner: 8, Base: 450, Size: 100},
	}
}

func table(t *testing.T) *region.Table {
	t.Helper()
	x, e := region.New(regions()...)
	if e != api.OK {
		t.Fatal(e)
	}
	return x
}

// some is bytes that are not alike.
func some(n int) string {
	out := make([]byte, n)
	for i := range out {
		out[i] = byte(i*37 + 11)
	}
	return string(out)
}

// filled is a memory with some bytes in it.
func filled(t *testing.T) *mem.Memory {
	t.Helper()
	m := mem.New(size)
	if e := m.Put(0, some(size)); e != api.OK {
		t.Fatal(e)
	}
	return m
}

// all is a memory's bytes.
func all(t *testing.T, m *mem.Memory) string {
	t.Helper()
	s, e := m.Text(0, m.Size())
	if e != api.OK {
		t.Fatal(e)
	}
	return s
}

// asked says by the document's words where n bytes at an owner's address lie,
// or what is wrong with them.
func asked(owner, addr, n int) (int, api.Errno) {
	if n > api.Burst {
		return 0, api.ErrLimit
	}
	for _, r := range regions() {
		switch {
		case r.Owner != owner:
			continue
		case n < 0:
			return 0, api.ErrArg
		case addr < 0 || addr > r.Size || addr+n > r.Size:
			return 0, api.ErrRange
		case r.Base+addr+n > size:
			return 0, api.ErrRange
		}
		return r.Base + addr, api.OK
	}
	return 0, api.ErrOwner
}

// addresses are ones at the ends of all regions, and such that are not there.
func addresses() []int {
	out := slices.Clone(extremes)
	for _, end := range []int{0, 10, 32, 40, 50, 64, 100} {
		for d := -3; d <= 3; d++ {
			out = append(out, end+d)
		}
	}
	return append(out, 150, 200, 264, size, api.Physical)
}

func TestRead(t *testing.T) { // P6.1
	m := filled(t)
	numbers := append([]int{0, 1, 2, 3, 10, 11, 31, 32, 33, 64, size}, extremes...)
	for _, owner := range owners {
		for _, addr := range addresses() {
			for _, n := range numbers {
				e := dma.New(m, table(t))
				at, err := asked(owner, addr, n)
				s, f := e.Read(5, owner, addr, n)
				l, read, written := e.Records(), 0, 0
				read, written = e.Moved(owner)
				switch {
				case f != err || written != 0:
					t.Fatal(owner, addr, n, f, err, written)
				case err == api.OK && (s != some(size)[at:at+n] || len(l) != 0 || read != n):
					t.Fatal(owner, addr, n, s, l, read)
				case err != api.OK && (s != "" || read != 0 || !slices.Equal(l, []dma.Record{{Tick: 5, Owner: owner, Addr: addr, N: n, Err: err}})):
					t.Fatal(owner, addr, n, s, l, read)
				}
			}
		}
	}
	if all(t, m) != some(size) {
		t.Fatal("reading changes nothing")
	}
}

func TestWrite(t *testing.T) { // P6.1, P6.3
	for _, owner := range owners {
		for _, addr := range addresses() {
			for _, n := range []int{0, 1, 2, 3, 10, 11, 31, 32, 33, 64, size} {
				m := filled(t)
				e := dma.New(m, table(t))
				at, err := asked(owner, addr, n)
				text := strings.Repeat("\xff", n)
				want := some(size)
				if err == api.OK {
					want = want[:at] + text + want[at+n:]
				}
				f := e.Write(-6, owner, addr, text)
				l := e.Records()
				read, written := e.Moved(owner)
				switch {
				case f != err || all(t, m) != want || read != 0:
					t.Fatal(owner, addr, n, f, err, read)
				case err == api.OK && (len(l) != 0 || written != n):
					t.Fatal(owner, addr, n, l, written)
				case err != api.OK && (written != 0 || !slices.Equal(l, []dma.Record{{Tick: -6, Owner: owner, Addr: addr, N: n, Write: true, Err: err}})):
					t.Fatal(owner, addr, n, l, written)
				}
			}
		}
	}
}

// P6.1, P2: of several errors the one that is named first.
func TestErrorsInOrder(t *testing.T) {
	e := dma.New(nil, table(t))
	cases := []struct {
		owner, addr, n int
		err            api.Errno
	}{
		{9, -1, 33, api.ErrLimit}, // no owner, no address, and no memory either
		{9, -1, 32, api.ErrOwner},
		{9, -1, -1, api.ErrOwner},
		{1, -1, -1, api.ErrArg},
		{1, -1, 32, api.ErrRange},
		{1, 0, 32, api.ErrNil}, // the memory is not there
		{1, 64, 0, api.ErrNil},
		{1, 65, 0, api.ErrRange},
		{8, 99, 1, api.ErrNil},
	}
	for i, c := range cases {
		s, f := e.Read(i, c.owner, c.addr, c.n)
		if l := e.Records(); s != "" || f != c.err || len(l) != i+1 || l[i] != (dma.Record{Tick: i, Owner: c.owner, Addr: c.addr, N: c.n, Err: c.err}) {
			t.Fatal(c, s, f, l)
		}
	}
}

// Neither a nil memory nor a nil table is a nil engine.
func TestOfNothing(t *testing.T) {
	for _, e := range []*dma.Engine{dma.New(nil, nil), dma.New(mem.New(size), nil)} {
		if e == nil {
			t.Fatal("no engine")
		}
		if _, f := e.Read(1, 1, 0, 0); f != api.ErrOwner {
			t.Fatal(f)
		}
		if f := e.Write(2, 1, 0, strings.Repeat("a", 33)); f != api.ErrLimit {
			t.Fatal(f)
		}
		if l := e.Records(); len(l) != 2 {
			t.Fatal(l)
		}
	}
	e := dma.New(nil, table(t))
	if f := e.Write(3, 1, 0, ""); f != api.ErrNil || len(e.Records()) != 1 {
		t.Fatal(f, e.Records())
	}
}

// P6.1: the memory's error: what is mapped may be more than there is of it.
func TestBehindTheMemory(t *testing.T) {
	m := filled(t)
	e := dma.New(m, table(t))
	if s, f := e.Read(1, 8, 49, 1); s != some(size)[499:] || f != api.OK {
		t.Fatal(s, f)
	}
	for n := range 3 {
		want := api.ErrRange
		if n == 0 {
			want = api.OK // the end is there, for nothing is
		}
		if _, f := e.Read(2, 8, 50, n); f != want {
			t.Fatal(n, f)
		}
		if f := e.Write(2, 8, 50, some(n)); f != want {
			t.Fatal(n, f)
		}
		if f := e.Write(3, 8, 51, some(n)); f != api.ErrRange {
			t.Fatal(n, f)
		}
	}
	if f := e.Write(4, 8, 48, "abc"); f != api.ErrRange || all(t, m) != some(size) {
		t.Fatal("nothing of what is refused is written", f)
	}
}

// P6.2: all that was refused, in order, and nothing else.
func TestRecords(t *testing.T) {
	e := dma.New(filled(t), table(t))
	var want []dma.Record
	for i := range 200 {
		owner, addr, n := i%4, i*7%70, i*5%36
		r := dma.Record{Tick: 1000 - i, Owner: owner, Addr: addr, N: n, Write: i%3 == 0}
		_, r.Err = asked(owner, addr, n)
		if r.Err != api.OK {
			want = append(want, r)
		}
		var f api.Errno
		if r.Write {
			f = e.Write(r.Tick, owner, addr, some(n))
		} else {
			_, f = e.Read(r.Tick, owner, addr, n)
		}
		if f != r.Err || !slices.Equal(e.Records(), want) {
			t.Fatal(i, r, f, e.Records())
		}
	}
	if len(want) < 20 || len(want) > 180 {
		t.Fatal("too few of one kind", len(want))
	}
}

// P6.2: the bytes that were moved, for each owner by itself, and each way.
func TestMoved(t *testing.T) {
	e := dma.New(filled(t), table(t))
	read, written := map[int]int{}, map[int]int{}
	for i := range 300 {
		owner, addr, n := []int{1, 2, 7, 8, 3, 0, 9}[i%7], i*7%70, i*5%36
		_, err := asked(owner, addr, n)
		if i%2 == 0 {
			e.Read(i, owner, addr, n)
			if err == api.OK {
				read[owner] += n
			}
		} else {
			e.Write(i, owner, addr, some(n))
			if err == api.OK {
				written[owner] += n
			}
		}
		for _, o := range owners {
			if r, w := e.Moved(o); r != read[o] || w != written[o] {
				t.Fatal(i, o, r, w)
			}
		}
	}
	for _, o := range []int{1, 2, 7, 8} {
		if read[o] == 0 || written[o] == 0 {
			t.Fatal("nothing was moved for", o)
		}
	}
}

// An engine keeps the memory that was handed in: what it writes is written there.
func TestKeepsTheMemory(t *testing.T) {
	m := filled(t)
	e := dma.New(m, table(t))
	if f := e.Write(1, 2, 3, "xyz"); f != api.OK {
		t.Fatal(f)
	}
	if s, f := m.Text(267, 3); s != "xyz" || f != api.OK {
		t.Fatal(s, f)
	}
	m.Put(267, "abc")
	if s, f := e.Read(2, 2, 3, 3); s != "abc" || f != api.OK {
		t.Fatal(s, f)
	}
}

// P6.3: with all bursts that there can be, each owner alone changes its region.
func TestStaysInTheRegion(t *testing.T) {
	x := table(t)
	for _, owner := range []int{1, 2, 7, 8} {
		m := filled(t)
		was := m.Fork()
		e := dma.New(m, x)
		for addr := -40; addr < 140; addr++ {
			for n := range 40 {
				e.Write(1, owner, addr, strings.Repeat("\x00", n))
			}
		}
		s := x.Span(owner)
		for _, d := range mem.Diff(was, m) {
			if d.From < s.From || d.To > s.To {
				t.Fatal(owner, s, d)
			}
		}
		for at := s.From; at < min(s.To, size); at++ {
			if n, _ := m.Get(at); n != 0 {
				t.Fatal(owner, at, n)
			}
		}
	}
}

// P6.2, P4: a fork has the same records, numbers and regions, and another
// memory; what becomes of the one changes nothing of the other one.
func TestFork(t *testing.T) {
	m := filled(t)
	e := dma.New(m, table(t))
	for i := range 5 { // so many that there may be spare room behind the records
		e.Read(i, 3, 0, 1)
	}
	e.Read(6, 1, 0, 9)
	e.Write(7, 1, 0, "abcd")
	records := e.Records()
	other := mem.New(300)
	f := e.Fork(other)
	if !slices.Equal(f.Records(), records) {
		t.Fatal(f.Records())
	}
	if r, w := f.Moved(1); r != 9 || w != 4 {
		t.Fatal(r, w)
	}
	if s, err := f.Read(8, 1, 0, 4); s != "\x00\x00\x00\x00" || err != api.OK {
		t.Fatal(s, err)
	}

	was, wasOther := all(t, m), all(t, other)
	f.Write(9, 1, 0, "zz")
	f.Write(10, 1, 64, "f")
	if all(t, m) != was || !slices.Equal(e.Records(), records) {
		t.Fatal("the fork's deeds are told by the first one")
	}
	if r, w := e.Moved(1); r != 9 || w != 4 {
		t.Fatal(r, w)
	}
	wasOther = wasOther[:200] + "zz" + wasOther[202:]
	e.Write(11, 2, 0, "yyy")
	e.Write(12, 2, 40, "e")
	if all(t, other) != wasOther {
		t.Fatal("the first one's deeds are done in the fork's memory")
	}
	last := func(l []dma.Record) dma.Record { return l[len(l)-1] }
	if l := f.Records(); len(l) != len(records)+1 || last(l) != (dma.Record{Tick: 10, Owner: 1, Addr: 64, N: 1, Write: true, Err: api.ErrRange}) {
		t.Fatal(l)
	}
	if l := e.Records(); len(l) != len(records)+1 || last(l) != (dma.Record{Tick: 12, Owner: 2, Addr: 40, N: 1, Write: true, Err: api.ErrRange}) {
		t.Fatal(l)
	}
	if r, w := f.Moved(1); r != 13 || w != 6 {
		t.Fatal(r, w)
	}
	if r, w := f.Moved(2); r != 0 || w != 0 {
		t.Fatal(r, w)
	}
	if _, err := f.Read(13, 8, 0, 1); err != api.ErrRange {
		t.Fatal("the memory handed in is the smaller one", err)
	}
}

// Of a nil memory a fork has none.
func TestForkOfNoMemory(t *testing.T) {
	m := filled(t)
	f := dma.New(m, table(t)).Fork(nil)
	if f == nil || f.Write(1, 1, 0, "a") != api.ErrNil || all(t, m) != some(size) {
		t.Fatal(f)
	}
}

// P6.2: of a nil engine ErrNil, none, 0; Fork nil.
func TestNil(t *testing.T) {
	var e *dma.Engine
	for _, n := range append([]int{0, 1, 33}, extremes...) {
		if s, f := e.Read(n, n, n, n); s != "" || f != api.ErrNil {
			t.Fatal(s, f)
		}
		if f := e.Write(n, n, n, "a"); f != api.ErrNil {
			t.Fatal(f)
		}
		if r, w := e.Moved(n); r != 0 || w != 0 {
			t.Fatal(r, w)
		}
	}
	if f := e.Write(1, 1, 0, strings.Repeat("a", 33)); f != api.ErrNil {
		t.Fatal(f)
	}
	if l := e.Records(); len(l) != 0 {
		t.Fatal(l)
	}
	if f := e.Fork(mem.New(9)); f != nil {
		t.Fatal(f)
	}
}

// P3: what is answered is new memory.
func TestAnswersAreNew(t *testing.T) {
	e := dma.New(filled(t), table(t))
	e.Read(1, 3, 0, 1)
	l := e.Records()
	l[0] = dma.Record{}
	if l = e.Records(); l[0].Err != api.ErrOwner {
		t.Fatal(l)
	}
	_ = append(l[:1], dma.Record{Tick: 77})
	e.Read(2, 3, 0, 1)
	if l = e.Records(); len(l) != 2 || l[1].Tick != 2 {
		t.Fatal(l)
	}
}

func TestExample(t *testing.T) {
	x, _ := region.New(api.Region{Owner: 1, Base: 128, Size: 64})
	e := dma.New(mem.New(size), x)
	if f := e.Write(3, 1, 62, "abcd"); f != api.ErrRange {
		t.Fatal(f)
	}
	if l := e.Records(); !slices.Equal(l, []dma.Record{{Tick: 3, Owner: 1, Addr: 62, N: 4, Write: true, Err: api.ErrRange}}) {
		t.Fatal(l)
	}
}
