package region_test

import (
	"math"
	"slices"
	"testing"

	"campanile/api"
	"campanile/region"
)

// The calls have just these signatures.
var (
	_ func(...api.Region) (*region.Table, api.Errno)      = region.New
	_ func(*region.Table, int) (api.Region, api.Errno)    = (*region.Table).Find
	_ func(*region.Table, int, int, int) (int, api.Errno) = (*region.Table).Map
	_ func(*region.Table, int) (int, int)                 = (*region.Table).Back
	_ func(*region.Table) []api.Region                    = (*region.Table).All
	_ func(*region.Table, int) api.Span                   = (*region.Table).Span
)

const (
	system   = api.System
	physical = api.Physical
)

// extremes are numbers of which some go round if anything is added to them.
var extremes = []int{math.MinInt, math.MinInt + 1, math.MinInt32, -1, math.MaxInt32, math.MaxInt - 1, math.MaxInt}

// owners are such that may have a region, and such that may not.
var owners = append([]int{0, 1, 2, 3, 4, 5, 6, 7, 8, 9}, extremes...)

func row(owner, base, size int) api.Region {
	return api.Region{Owner: owner, Base: base, Size: size}
}

// table is one that has to be there.
func table(t *testing.T, l ...api.Region) *region.Table {
	t.Helper()
	x, e := region.New(l...)
	if e != api.OK || x == nil {
		t.Fatal(l, x, e)
	}
	return x
}

// tables are lists of rows that may stand together.
func tables() [][]api.Region {
	full := []api.Region{}
	for owner := api.MaxClients; owner >= 1; owner-- {
		full = append(full, row(owner, system+owner*40, 20+owner))
	}
	return [][]api.Region{
		nil,
		{row(2, 200, 64)},
		{row(2, 300, 100), row(1, 200, 100)},
		{row(1, 200, 100), row(2, 300, 100), row(8, 199, 1), row(5, 400, 1)},
		{row(3, system, physical-system)},
		{row(8, physical-1, 1), row(1, system, 1)},
		full,
	}
}

// has is an owner's row in a list, found by going through it.
func has(l []api.Region, owner int) (api.Region, bool) {
	for _, r := range l {
		if r.Owner == owner {
			return r, true
		}
	}
	return api.Region{}, false
}

// P5.1: a row may be, if its owner is from 1 to api.MaxClients, its base from
// api.System on, its size 1 at least, and it ends within the physical memory.
func TestNewOfOneRow(t *testing.T) {
	bases := append([]int{0, 1, system - 1, system, system + 1, 200, physical - 2, physical - 1, physical, physical + 1}, extremes...)
	sizes := append([]int{0, 1, 2, 100, physical - system - 1, physical - system, physical - system + 1, physical}, extremes...)
	for _, owner := range owners {
		for _, base := range bases {
			for _, size := range sizes {
				may := 1 <= owner && owner <= api.MaxClients && system <= base && base < physical &&
					1 <= size && size <= physical && base+size <= physical
				x, e := region.New(row(owner, base, size))
				switch {
				case may && (e != api.OK || !slices.Equal(x.All(), []api.Region{row(owner, base, size)})):
					t.Fatal(owner, base, size, e)
				case !may && (e != api.ErrArg || x != nil):
					t.Fatal(owner, base, size, x, e)
				}
			}
		}
	}
}

// P5.1, P2: row by row, and of a row the error that is named first.
func TestNewOfSomeRows(t *testing.T) {
	good, far := row(1, 200, 10), row(2, 400, 10)
	cases := []struct {
		l []api.Region
		e api.Errno
	}{
		{nil, api.OK},
		{[]api.Region{good, far}, api.OK},
		{[]api.Region{good, row(1, 200, 0)}, api.ErrArg},   // the same owner, but first of all it may not be
		{[]api.Region{good, row(0, 205, 1)}, api.ErrArg},   // it meets one, but first of all it may not be
		{[]api.Region{good, row(9, 300, 1)}, api.ErrArg},   //
		{[]api.Region{good, good}, api.ErrSame},            // it meets it, too
		{[]api.Region{good, row(1, 300, 10)}, api.ErrSame}, // it meets none
		{[]api.Region{good, far, row(1, 405, 1)}, api.ErrSame},
		{[]api.Region{good, far, row(2, 205, 1)}, api.ErrSame},
		{[]api.Region{good, row(2, 199, 1)}, api.OK},
		{[]api.Region{good, row(2, 199, 2)}, api.ErrFit},
		{[]api.Region{good, row(2, 199, 100)}, api.ErrFit},
		{[]api.Region{good, row(2, 204, 1)}, api.ErrFit},
		{[]api.Region{good, row(2, 209, 1)}, api.ErrFit},
		{[]api.Region{good, row(2, 210, 1)}, api.OK},
		{[]api.Region{good, far, row(3, 402, 3)}, api.ErrFit},
		{[]api.Region{far, good, row(3, 150, 100)}, api.ErrFit},
		{[]api.Region{good, row(2, 209, 1), row(0, 0, 0)}, api.ErrFit},  // the row that is ahead tells
		{[]api.Region{good, row(0, 0, 0), row(1, 200, 10)}, api.ErrArg}, //
		{[]api.Region{good, row(1, 500, 1), row(2, 209, 1)}, api.ErrSame},
	}
	for _, c := range cases {
		x, e := region.New(c.l...)
		if e != c.e || (x == nil) != (e != api.OK) {
			t.Fatal(c, x, e)
		}
	}
}

// P5.1: a row that is refused has no place in what comes behind it, and a
// region is held against all ahead of it, whichever it is.
func TestNewMeetsAnyAhead(t *testing.T) {
	var l []api.Region
	for owner := 1; owner < api.MaxClients; owner++ {
		l = append(l, row(owner, 1000-100*owner, 50))
	}
	for i, r := range l {
		for _, c := range []struct {
			base, size int
			e          api.Errno
		}{{r.Base - 1, 1, api.OK}, {r.Base, 1, api.ErrFit}, {r.Base + 49, 1, api.ErrFit}, {r.Base + 50, 1, api.OK}} {
			if _, e := region.New(append(slices.Clone(l), row(api.MaxClients, c.base, c.size))...); e != c.e {
				t.Fatal(i, c, e)
			}
		}
	}
}

// P5.1: what is in a table is told by its owner.
func TestFindAndSpan(t *testing.T) {
	for _, l := range tables() {
		x := table(t, l...)
		for _, owner := range owners {
			want, there := has(l, owner)
			r, e := x.Find(owner)
			s := x.Span(owner)
			switch {
			case there && (e != api.OK || r != want || s != api.Span{From: want.Base, To: want.Base + want.Size}):
				t.Fatal(l, owner, r, s, e)
			case !there && (e != api.ErrOwner || r != api.Region{} || s != api.Span{}):
				t.Fatal(l, owner, r, s, e)
			}
		}
	}
}

// P5.1: all regions, by their base, in whichever order they were handed in.
func TestAll(t *testing.T) {
	for _, l := range tables() {
		want := slices.Clone(l)
		for i := range want {
			for k := range want[:i] {
				if want[k].Base > want[i].Base {
					want[k], want[i] = want[i], want[k]
				}
			}
		}
		for range 20 {
			if all := table(t, l...).All(); !slices.Equal(all, want) {
				t.Fatal(l, all)
			}
			if len(l) > 0 {
				l = append(slices.Clone(l[1:]), l[0])
			}
		}
	}
}

// P5.2: the place of an address, if all are there.
func TestMap(t *testing.T) {
	for _, l := range tables() {
		x := table(t, l...)
		for _, owner := range owners {
			r, there := has(l, owner)
			var numbers []int
			for d := -3; d <= 3; d++ {
				numbers = append(numbers, d, r.Size/2+d, r.Size+d, r.Base+d, physical+d)
			}
			numbers = append(numbers, extremes...)
			for _, addr := range numbers {
				for _, n := range numbers {
					want, e := 0, api.OK
					switch {
					case !there:
						e = api.ErrOwner
					case n < 0:
						e = api.ErrArg
					case addr < 0 || addr > r.Size || n > r.Size || addr+n > r.Size:
						e = api.ErrRange
					default:
						want = r.Base + addr
					}
					if at, f := x.Map(owner, addr, n); at != want || f != e {
						t.Fatal(l, owner, addr, n, at, f)
					}
				}
			}
		}
	}
}

// P5.2: whose a place is, and its address there.
func TestBack(t *testing.T) {
	for _, l := range tables() {
		x := table(t, l...)
		whose := map[int][2]int{}
		for _, r := range l {
			for addr := range r.Size {
				whose[r.Base+addr] = [2]int{r.Owner, addr}
			}
		}
		places := slices.Clone(extremes)
		for at := -2; at < 1200; at++ {
			places = append(places, at)
		}
		for at := physical - 3; at < physical+3; at++ {
			places = append(places, at)
		}
		for _, at := range places {
			if owner, addr := x.Back(at); owner != whose[at][0] || addr != whose[at][1] {
				t.Fatal(l, at, owner, addr)
			}
		}
	}
}

// P5.3: Back of Map is the owner and the address; no two owners have a place
// both; all that is mapped lies in the owner's region.
func TestBackOfMap(t *testing.T) {
	for _, l := range tables() {
		x := table(t, l...)
		seen := map[int]bool{}
		for _, r := range l {
			s := x.Span(r.Owner)
			for addr := range r.Size {
				at, e := x.Map(r.Owner, addr, 1)
				if e != api.OK || seen[at] || at < s.From || at >= s.To {
					t.Fatal(l, r, addr, at, e)
				}
				seen[at] = true
				if owner, back := x.Back(at); owner != r.Owner || back != addr {
					t.Fatal(l, r, addr, owner, back)
				}
				rest := r.Size - addr
				if at, e = x.Map(r.Owner, addr, rest); e != api.OK || at+rest != s.To {
					t.Fatal(l, r, addr, at, e)
				}
				if _, e = x.Map(r.Owner, addr, rest+1); e != api.ErrRange {
					t.Fatal(l, r, addr, e)
				}
			}
		}
	}
}

func TestExample(t *testing.T) {
	x := table(t, row(2, 200, 64))
	if at, e := x.Map(2, 60, 4); at != 260 || e != api.OK {
		t.Fatal(at, e)
	}
	if at, e := x.Map(2, 60, 5); at != 0 || e != api.ErrRange {
		t.Fatal(at, e)
	}
	if owner, addr := x.Back(263); owner != 2 || addr != 63 {
		t.Fatal(owner, addr)
	}
}

// A nil table has no rows.
func TestNil(t *testing.T) {
	var x *region.Table
	for _, owner := range owners {
		if r, e := x.Find(owner); r != (api.Region{}) || e != api.ErrOwner {
			t.Fatal(r, e)
		}
		if s := x.Span(owner); s != (api.Span{}) {
			t.Fatal(s)
		}
		for _, n := range extremes {
			if at, e := x.Map(owner, n, n); at != 0 || e != api.ErrOwner {
				t.Fatal(at, e)
			}
		}
		if o, addr := x.Back(owner); o != 0 || addr != 0 {
			t.Fatal(o, addr)
		}
	}
	if all := x.All(); len(all) != 0 {
		t.Fatal(all)
	}
}

// P3: what is handed in stays as it is, spare room too, and is not kept.
func TestArgumentsStay(t *testing.T) {
	room := []api.Region{row(2, 300, 100), row(1, 200, 100), row(7, 7, 7)}
	was := slices.Clone(room)
	x := table(t, room[:2]...)
	if !slices.Equal(room, was) {
		t.Fatal(room)
	}
	room[0], room[1] = row(5, 500, 5), row(6, 600, 6)
	if all := x.All(); !slices.Equal(all, []api.Region{was[1], was[0]}) {
		t.Fatal(all)
	}
}

// P3: what is answered is new memory.
func TestAnswersAreNew(t *testing.T) {
	x := table(t, row(2, 300, 100), row(1, 200, 100))
	a := x.All()
	was := slices.Clone(a)
	a[0], a[1] = api.Region{}, api.Region{}
	if all := x.All(); !slices.Equal(all, was) {
		t.Fatal(all)
	}
	if r, e := x.Find(1); r != row(1, 200, 100) || e != api.OK {
		t.Fatal(r, e)
	}
}

// P6: tables stand by themselves, one beside the other.
func TestTablesStayApart(t *testing.T) {
	a := table(t, row(1, 200, 10))
	b := table(t, row(1, 300, 10), row(2, 200, 10))
	if at, _ := a.Map(1, 0, 1); at != 200 {
		t.Fatal(at)
	}
	if owner, _ := a.Back(300); owner != 0 {
		t.Fatal(owner)
	}
	if owner, _ := b.Back(200); owner != 2 {
		t.Fatal(owner)
	}
}
