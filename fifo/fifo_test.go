package fifo_test

import (
	"iter"
	"math"
	"runtime"
	"slices"
	"testing"
	"weak"

	"campanile/fifo"
)

// The calls have just these signatures.
var (
	_ func(int) *fifo.Queue[int]                          = fifo.New[int]
	_ func(*fifo.Queue[int], int) bool                    = (*fifo.Queue[int]).Push
	_ func(*fifo.Queue[int]) (int, bool)                  = (*fifo.Queue[int]).Pop
	_ func(*fifo.Queue[string], int) (string, bool)       = (*fifo.Queue[string]).Peek
	_ func(*fifo.Queue[int]) int                          = (*fifo.Queue[int]).Len
	_ func(*fifo.Queue[int]) int                          = (*fifo.Queue[int]).Limit
	_ func(*fifo.Queue[int]) int                          = (*fifo.Queue[int]).Drops
	_ func(*fifo.Queue[float64]) iter.Seq2[int, float64]  = (*fifo.Queue[float64]).All
	_ func(*fifo.Queue[[]int], int) [][]int               = (*fifo.Queue[[]int]).Take
	_ func(*fifo.Queue[func()]) *fifo.Queue[func()]       = (*fifo.Queue[func()]).Fork
	_ func(*fifo.Queue[[2]error], int) []([2]error)       = (*fifo.Queue[[2]error]).Take
	_ func(*fifo.Queue[struct{}], struct{}) (pushed bool) = (*fifo.Queue[struct{}]).Push
)

const mostLimit = 65536

// extremes are numbers of which some go round if anything is added to them.
var extremes = []int{math.MinInt, math.MinInt + 1, math.MinInt32, -1, math.MaxInt32, math.MaxInt - 1, math.MaxInt}

// of is a queue with things in it.
func of[T any](t *testing.T, limit int, l ...T) *fifo.Queue[T] {
	t.Helper()
	q := fifo.New[T](limit)
	for _, x := range l {
		if !q.Push(x) {
			t.Fatal("no room", limit, l)
		}
	}
	return q
}

// same tells whether a queue has just these things, by all calls that change nothing.
func same[T comparable](q *fifo.Queue[T], l []T) bool {
	for i, x := range l {
		if y, ok := q.Peek(i); !ok || x != y {
			return false
		}
	}
	var none T
	for _, i := range append([]int{len(l), len(l) + 1}, extremes...) {
		if y, ok := q.Peek(i); ok || y != none {
			return false
		}
	}
	n := 0
	for i, x := range q.All() {
		if i != n || i >= len(l) || x != l[i] {
			return false
		}
		n++
	}
	return n == len(l) && q.Len() == len(l)
}

func TestNew(t *testing.T) { // P7.1
	limits := append([]int{0, 1, 2, 100, mostLimit - 1, mostLimit, mostLimit + 1, 1 << 20}, extremes...)
	for _, limit := range limits {
		q := fifo.New[int](limit)
		want := limit
		if limit < 0 {
			want = 0
		}
		if limit > mostLimit {
			want = mostLimit
		}
		if q == nil || q.Limit() != want || q.Drops() != 0 || !same(q, nil) {
			t.Fatal(limit, q.Limit(), q.Drops(), q.Len())
		}
		if x, ok := q.Pop(); x != 0 || ok {
			t.Fatal(limit, x, ok)
		}
	}
}

// P7.1: as many have room as the limit says, and not one more.
func TestPushToTheLimit(t *testing.T) {
	for _, limit := range []int{-7, math.MinInt, 0, 1, 2, 3, 17, 4096, mostLimit - 1, mostLimit, mostLimit + 1, math.MaxInt} {
		q := fifo.New[int](limit)
		room := q.Limit()
		if room > mostLimit {
			t.Fatal(limit, room)
		}
		for i := range room {
			if !q.Push(i) || q.Len() != i+1 {
				t.Fatal(limit, i)
			}
		}
		for i := range 5 {
			if q.Push(-i) || q.Len() != room || q.Drops() != i+1 {
				t.Fatal(limit, i, q.Len(), q.Drops())
			}
		}
		for i := range room {
			if x, ok := q.Pop(); x != i || !ok {
				t.Fatal(limit, i, x, ok)
			}
		}
		if x, ok := q.Pop(); x != 0 || ok || q.Drops() != 5 || q.Limit() != room {
			t.Fatal(limit, x, ok)
		}
	}
}

// P7.1, P7.3: what is dropped is the one that came last; what was there stays.
func TestDropsTheLastOne(t *testing.T) {
	q := of(t, 3, "a", "b", "c")
	if q.Push("d") || !same(q, []string{"a", "b", "c"}) {
		t.Fatal("the one that comes goes")
	}
	if x, ok := q.Pop(); x != "a" || !ok {
		t.Fatal(x, ok)
	}
	if !q.Push("e") || q.Push("f") || !same(q, []string{"b", "c", "e"}) || q.Drops() != 2 {
		t.Fatal("what went has left room")
	}
}

func TestTake(t *testing.T) { // P7.1
	things := []int{10, 11, 12, 13, 14}
	for _, n := range append([]int{0, 1, 2, 3, 4, 5, 6, 100}, extremes...) {
		q := of(t, 5, things...)
		want := min(max(n, 0), len(things))
		if l := q.Take(n); !slices.Equal(l, things[:want]) || !same(q, things[want:]) {
			t.Fatal(n, l, q.Len())
		}
		for i := range want {
			if !q.Push(i) {
				t.Fatal("what went has left room", n, i)
			}
		}
		if q.Push(9) || q.Drops() != 1 || q.Limit() != 5 {
			t.Fatal(n, q.Drops())
		}
	}
	for _, n := range append([]int{0, 1}, extremes...) {
		if l := fifo.New[int](4).Take(n); len(l) != 0 {
			t.Fatal(n, l)
		}
	}
}

// P7.1, P7.2, P7.3: for long, held against a list.
func TestAgainstAList(t *testing.T) {
	for _, limit := range []int{0, 1, 2, 3, 16, 61} {
		q := fifo.New[int](limit)
		var list []int
		came, went, drops := 0, 0, 0
		state := uint32(limit + 1)
		for range 3000 {
			state = state*1664525 + 1013904223
			switch n := int(state >> 20 % 7); n {
			case 0, 1, 2, 3:
				came++
				room := len(list) < limit
				if q.Push(came) != room {
					t.Fatal(limit, came)
				}
				if room {
					list = append(list, came)
				} else {
					drops++
				}
			case 4, 5:
				x, ok := q.Pop()
				if ok != (len(list) > 0) || ok && x != list[0] || !ok && x != 0 {
					t.Fatal(limit, came, x, ok)
				}
				if ok {
					list = list[1:]
					went++
				}
			default:
				n = int(state >> 9 % 6)
				l := q.Take(n)
				if n = min(n, len(list)); !slices.Equal(l, list[:n]) {
					t.Fatal(limit, came, n, l)
				}
				list = list[n:]
				went += n
			}
			if !same(q, list) || q.Drops() != drops || q.Limit() != limit {
				t.Fatal(limit, came, list)
			}
			if came != q.Drops()+went+q.Len() {
				t.Fatal("each one was dropped, or went, or is there", came, drops, went, q.Len())
			}
		}
	}
}

// P7.2: a going through may stop, and be done again; it changes nothing.
func TestAll(t *testing.T) {
	things := []string{"a", "b", "c", "d"}
	q := of(t, 4, things...)
	all := q.All()
	for most := 1; most <= 4; most++ {
		var got []string
		for i, x := range all {
			if i != len(got) {
				t.Fatal(i, got)
			}
			if got = append(got, x); len(got) == most {
				break
			}
		}
		if !slices.Equal(got, things[:most]) || !same(q, things) || q.Drops() != 0 {
			t.Fatal(most, got)
		}
	}
	for range fifo.New[int](3).All() {
		t.Fatal("there is nothing")
	}
}

// P1: whatever becomes of the queue meanwhile, a going through ends, and does not panic.
func TestAllEnds(t *testing.T) {
	deeds := []func(q *fifo.Queue[int]){
		func(q *fifo.Queue[int]) { q.Push(1) },
		func(q *fifo.Queue[int]) { q.Pop() },
		func(q *fifo.Queue[int]) { q.Take(2) },
		func(q *fifo.Queue[int]) { q.Take(100); q.Push(7) },
	}
	for i, deed := range deeds {
		q := of(t, mostLimit, 1, 2, 3, 4, 5)
		n := 0
		for range q.All() {
			deed(q)
			if n++; n > 1000 {
				t.Fatal("it does not end", i)
			}
		}
	}
}

// P7.2, P4: a fork has the same things, limit and drops; what becomes of the one changes nothing of the other one.
func TestFork(t *testing.T) {
	for spare := range 6 { // so that there may be room behind the list that a fork could share
		things := []int{1, 2, 3, 4, 5, 6, 7, 8}[:8-spare]
		limit := len(things) + 2
		q := of(t, limit, things...)
		q.Push(0)
		q.Push(0)
		q.Push(0)
		q.Pop()
		list := append(slices.Clone(things[1:]), 0, 0)
		f := q.Fork()
		if f == q || !same(f, list) || f.Drops() != 1 || f.Limit() != limit {
			t.Fatal(spare, f.Len(), f.Drops(), f.Limit())
		}
		q.Push(100)
		f.Push(200)
		f.Push(201)
		if !same(q, append(slices.Clone(list), 100)) || q.Drops() != 1 {
			t.Fatal(spare, "of the first one")
		}
		if !same(f, append(slices.Clone(list), 200)) || f.Drops() != 2 {
			t.Fatal(spare, "of the fork")
		}
		q.Take(2)
		q.Push(101)
		if !same(f, append(slices.Clone(list), 200)) {
			t.Fatal(spare, "what goes of the first one stays in the fork")
		}
		f.Take(limit)
		if x, ok := q.Peek(0); !ok || x != list[2] || f.Len() != 0 || q.Len() != limit-1 {
			t.Fatal(spare, "what goes of the fork stays in the first one")
		}
	}
}

// Of an empty queue a fork is one, too.
func TestForkOfNothing(t *testing.T) {
	q := fifo.New[int](2)
	q.Push(1)
	q.Pop()
	f := q.Fork()
	f.Push(5)
	q.Push(6)
	if !same(f, []int{5}) || !same(q, []int{6}) {
		t.Fatal(f, q)
	}
}

// P3: what Take answers is new memory.
func TestTakenIsNew(t *testing.T) {
	q := of(t, 8, 1, 2, 3, 4, 5)
	l := q.Take(2)
	_ = append(l, 70, 71, 72)
	l[0], l[1] = 80, 81
	if !same(q, []int{3, 4, 5}) {
		t.Fatal("what is answered lies in what is kept")
	}
	l = q.Take(3)
	for i := range 8 {
		q.Push(i)
	}
	if !slices.Equal(l, []int{3, 4, 5}) {
		t.Fatal("what is kept lies in what was answered", l)
	}
}

// What went is not kept, though the list that it stood in still is.
func TestNothingOfWhatWentIsKept(t *testing.T) {
	q := fifo.New[*[64]byte](4)
	var seen []weak.Pointer[[64]byte]
	for range 4 {
		x := new([64]byte)
		seen = append(seen, weak.Make(x))
		q.Push(x)
	}
	q.Pop()
	q.Take(2)
	for range 10 {
		runtime.GC()
	}
	for i, x := range seen {
		if there := x.Value() != nil; there != (i == 3) {
			t.Fatal(i, there)
		}
	}
	runtime.KeepAlive(q)
}

// P7.2: a nil queue is empty, and drops all without counting; Fork nil.
func TestNil(t *testing.T) {
	var q *fifo.Queue[string]
	for range 3 {
		if q.Push("a") {
			t.Fatal("it has no room")
		}
	}
	if q.Limit() != 0 || q.Drops() != 0 || !same(q, nil) {
		t.Fatal(q.Limit(), q.Drops(), q.Len())
	}
	if x, ok := q.Pop(); x != "" || ok {
		t.Fatal(x, ok)
	}
	for _, n := range append([]int{0, 1, 5}, extremes...) {
		if l := q.Take(n); len(l) != 0 {
			t.Fatal(l)
		}
	}
	if f := q.Fork(); f != nil {
		t.Fatal(f)
	}
}

// Things may be of any kind, of none that can be held against each other too.
func TestAnyKind(t *testing.T) {
	lists := of(t, 2, []int{1}, nil)
	if x, ok := lists.Peek(1); x != nil || !ok {
		t.Fatal("nil is a thing", x, ok)
	}
	if x, ok := lists.Pop(); len(x) != 1 || x[0] != 1 || !ok {
		t.Fatal(x, ok)
	}
	nothings := of(t, 3, struct{}{}, struct{}{}, struct{}{})
	if nothings.Push(struct{}{}) || nothings.Len() != 3 || len(nothings.Take(2)) != 2 || nothings.Len() != 1 {
		t.Fatal("things of no size")
	}
	queues := of(t, 1, of(t, 1, 7))
	if x, ok := queues.Pop(); !ok || !same(x, []int{7}) {
		t.Fatal("queues of queues")
	}
	floats := of(t, 2, math.NaN(), math.Copysign(0, -1))
	if l := floats.Take(2); !math.IsNaN(l[0]) || !math.Signbit(l[1]) {
		t.Fatal("floats go as they came", l)
	}
}

// P6: queues stand by themselves, one beside the other.
func TestQueuesStayApart(t *testing.T) {
	a, b := fifo.New[int](1), fifo.New[int](2)
	a.Push(1)
	a.Push(2)
	if b.Len() != 0 || b.Drops() != 0 || b.Limit() != 2 || a.Drops() != 1 {
		t.Fatal(a, b)
	}
}

func TestExample(t *testing.T) {
	q := fifo.New[int](2)
	if !q.Push(1) || !q.Push(2) || q.Push(3) {
		t.Fatal("room for two")
	}
	if x, ok := q.Pop(); x != 1 || !ok || q.Drops() != 1 {
		t.Fatal(x, ok, q.Drops())
	}
}
