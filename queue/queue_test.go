package queue_test

import (
	"math"
	"slices"
	"testing"

	"campanile/api"
	"campanile/queue"
)

// The calls have just these signatures, and the structs just these fields.
var (
	_ func(int) *queue.Queue                 = queue.New
	_ func(*queue.Queue, queue.Item) bool    = (*queue.Queue).Put
	_ func(*queue.Queue) int                 = (*queue.Queue).Settle
	_ func(*queue.Queue) (queue.Item, bool)  = (*queue.Queue).Head
	_ func(*queue.Queue, int, int) api.Errno = (*queue.Queue).Finish
	_ func(*queue.Queue) []queue.Closed      = (*queue.Queue).Post
	_ func(*queue.Queue) int                 = (*queue.Queue).Waits
	_ func(*queue.Queue) int                 = (*queue.Queue).Backlog
	_ func(*queue.Queue) int                 = (*queue.Queue).Len
	_ func(*queue.Queue) *queue.Queue        = (*queue.Queue).Fork
	_                                        = queue.Item{int(0), api.Desc{}, false}
	_                                        = queue.Closed{queue.Item{}, int(0), int(0)}
)

// wild are numbers of any size.
var wild = []int{
	math.MinInt, math.MinInt + 1, math.MinInt32, -17, -2, -1, 0, 1, 2, 3, 8, 15, 16, 17, 18, 32,
	255, 256, 65535, 65536, math.MaxInt32, 1 << 32, math.MaxInt - 1, math.MaxInt,
}

// dice are numbers that come the same each time.
type dice uint32

// below is a number from 0 on, below n.
func (d *dice) below(n int) int {
	*d = *d*1664525 + 1013904223
	return int(uint32(*d)>>8) % n
}

// good and bad are requests of the k'th descriptor, each one unlike all others.
func good(k int) queue.Item {
	return queue.Item{K: k, D: api.Desc{What: api.What(k % 7), Status: uint8(k % 3), Addr: 3 * k, Len: k + 1, Arg: -k}}
}

func bad(k int) queue.Item {
	x := good(k)
	x.Bad = true
	return x
}

// wrong is a bad request as it is done.
func wrong(k int) queue.Closed {
	return queue.Closed{Item: bad(k), Status: 2, N: 0}
}

// of is a queue in which these wait.
func of(t *testing.T, limit int, l ...queue.Item) *queue.Queue {
	t.Helper()
	q := queue.New(limit)
	for _, x := range l {
		if !q.Put(x) {
			t.Fatal("no room", limit, l)
		}
	}
	return q
}

// entry is a request of a plain queue.
type entry struct {
	c    queue.Closed
	done bool
}

// plain is a queue as the document's words tell it: all requests in one list, in order.
type plain struct {
	room int
	list []entry
}

func (p *plain) put(x queue.Item) bool {
	if len(p.list) >= p.room {
		return false
	}
	p.list = append(p.list, entry{c: queue.Closed{Item: x}})
	return true
}

// first is the place of the first one that waits; of none, that behind the last one.
func (p *plain) first() int {
	i := 0
	for i < len(p.list) && p.list[i].done {
		i++
	}
	return i
}

func (p *plain) settle() int {
	n := 0
	for i := p.first(); i < len(p.list) && p.list[i].c.Item.Bad; i++ {
		p.list[i].done, p.list[i].c.Status = true, 2
		n++
	}
	return n
}

func (p *plain) head() (queue.Item, bool) {
	p.settle()
	if i := p.first(); i < len(p.list) {
		return p.list[i].c.Item, true
	}
	return queue.Item{}, false
}

func (p *plain) finish(status, n int) api.Errno {
	p.settle()
	i := p.first()
	if i == len(p.list) {
		return api.ErrEmpty
	}
	p.list[i].done, p.list[i].c.Status, p.list[i].c.N = true, status, n
	return api.OK
}

func (p *plain) post() []queue.Closed {
	p.settle()
	var out []queue.Closed
	i := p.first()
	for _, e := range p.list[:i] {
		out = append(out, e.c)
	}
	p.list = slices.Clone(p.list[i:])
	return out
}

func (p *plain) backlog() int {
	n := 0
	for _, e := range p.list {
		if !e.done && !e.c.Item.Bad {
			n++
		}
	}
	return n
}

func (p *plain) fork() *plain {
	return &plain{p.room, slices.Clone(p.list)}
}

// same holds a queue against a plain one, by the calls that change nothing.
func same(t *testing.T, q *queue.Queue, p *plain) {
	t.Helper()
	if q.Len() != len(p.list) || q.Waits() != len(p.list)-p.first() || q.Backlog() != p.backlog() {
		t.Fatal(q.Len(), q.Waits(), q.Backlog(), p.list)
	}
}

// emptied holds all that a queue would still tell, and its room, against a plain one.
func emptied(t *testing.T, q *queue.Queue, p *plain) {
	t.Helper()
	q, p = q.Fork(), p.fork()
	for k := 1000; p.put(good(k)); k++ {
		if !q.Put(good(k)) {
			t.Fatal("no room", k)
		}
	}
	if q.Put(good(7)) {
		t.Fatal("room")
	}
	for k := 0; ; k++ {
		if got, want := q.Post(), p.post(); !slices.Equal(got, want) {
			t.Fatal(got, want)
		}
		got, want := q.Finish(k, -k), p.finish(k, -k)
		if got != want {
			t.Fatal(got, want)
		}
		if want != api.OK {
			break
		}
	}
	same(t, q, p)
}

func TestNew(t *testing.T) { // P25.1
	limits := slices.Clone(wild)
	for n := -3; n < 40; n++ {
		limits = append(limits, n)
	}
	for _, limit := range limits {
		q, p := queue.New(limit), &plain{room: min(max(limit, 0), api.MaxRing)}
		if q == nil {
			t.Fatal(limit)
		}
		same(t, q, p)
		emptied(t, q, p)
		if x, ok := q.Head(); ok || x != (queue.Item{}) || q.Settle() != 0 || len(q.Post()) != 0 || q.Finish(1, 1) != api.ErrEmpty {
			t.Fatal(limit, x)
		}
	}
}

func TestPutToTheLimit(t *testing.T) { // P25.1
	for _, limit := range wild {
		room := min(max(limit, 0), api.MaxRing)
		for _, put := range []func(int) queue.Item{good, bad} {
			q := queue.New(limit)
			for k := range room {
				if !q.Put(put(k)) || q.Len() != k+1 || q.Waits() != k+1 {
					t.Fatal(limit, k, q.Len())
				}
			}
			for range 3 {
				if q.Put(good(99)) || q.Put(bad(99)) || q.Len() != room || q.Waits() != room {
					t.Fatal(limit, "one more", q.Len())
				}
			}
			for k := range room {
				q.Finish(5, 0)
				if l := q.Fork().Post(); len(l) <= k || l[k].Item != put(k) {
					t.Fatal(limit, k, l)
				}
			}
			if l := q.Post(); len(l) != room {
				t.Fatal(limit, l)
			}
		}
	}
}

// P25.1: what is done needs room too, till it is posted.
func TestRoomOfWhatIsDone(t *testing.T) {
	q := of(t, 3, bad(0), good(1), good(2))
	if q.Settle() != 1 || q.Put(good(3)) {
		t.Fatal("one is done")
	}
	if q.Finish(1, 8) != api.OK || q.Put(good(3)) || q.Finish(1, 8) != api.OK || q.Put(good(3)) || q.Len() != 3 {
		t.Fatal("all are done")
	}
	if l := q.Post(); len(l) != 3 {
		t.Fatal(l)
	}
	for k := 3; k < 6; k++ {
		if !q.Put(good(k)) {
			t.Fatal(k)
		}
	}
	if q.Put(good(6)) || q.Len() != 3 {
		t.Fatal("the limit stays")
	}
}

// P25.1: Put settles nothing, and what has no room leaves all as it was.
func TestPut(t *testing.T) {
	q := queue.New(2)
	if !q.Put(bad(0)) || q.Waits() != 1 || !q.Put(bad(1)) || q.Waits() != 2 || q.Put(bad(2)) || q.Put(good(3)) || q.Waits() != 2 || q.Backlog() != 0 {
		t.Fatal(q.Len(), q.Waits())
	}
	if l := q.Post(); !slices.Equal(l, []queue.Closed{wrong(0), wrong(1)}) {
		t.Fatal(l)
	}
	x := queue.Item{K: math.MinInt, D: api.Desc{What: 255, Status: 255, Addr: math.MaxInt, Len: math.MinInt, Arg: -1}}
	if !q.Put(x) {
		t.Fatal("room")
	}
	if y, ok := q.Head(); !ok || y != x {
		t.Fatal("it is as it was put", y)
	}
	if !q.Put(x) {
		t.Fatal("twice the same one")
	}
	if q.Finish(1, 2) != api.OK || q.Finish(3, 4) != api.OK {
		t.Fatal("both")
	}
	if l := q.Post(); !slices.Equal(l, []queue.Closed{{Item: x, Status: 1, N: 2}, {Item: x, Status: 3, N: 4}}) {
		t.Fatal(l)
	}
}

func TestSettle(t *testing.T) { // P25.1
	cases := []struct {
		l []queue.Item
		n int
	}{
		{nil, 0},
		{[]queue.Item{good(0)}, 0},
		{[]queue.Item{good(0), bad(1), bad(2)}, 0},
		{[]queue.Item{bad(0)}, 1},
		{[]queue.Item{bad(0), good(1), bad(2)}, 1},
		{[]queue.Item{bad(0), bad(1), good(2), bad(3)}, 2},
		{[]queue.Item{bad(0), bad(1), bad(2), bad(3)}, 4},
	}
	for _, c := range cases {
		q := of(t, 4, c.l...)
		if n := q.Settle(); n != c.n || q.Waits() != len(c.l)-c.n || q.Len() != len(c.l) {
			t.Fatal(c, n, q.Waits(), q.Len())
		}
		if q.Settle() != 0 {
			t.Fatal(c, "a second time")
		}
		var want []queue.Closed
		for k := range c.n {
			want = append(want, wrong(k))
		}
		if l := q.Post(); !slices.Equal(l, want) {
			t.Fatal(c, l)
		}
	}
}

// P25.1: what stands behind one that is done by Finish waits till the next call that settles.
func TestSettleBehindFinish(t *testing.T) {
	q := of(t, 4, good(0), bad(1), bad(2), good(3))
	if q.Finish(1, 5) != api.OK || q.Waits() != 3 || q.Backlog() != 1 || q.Settle() != 2 || q.Waits() != 1 || q.Backlog() != 1 {
		t.Fatal(q.Waits())
	}
	if l := q.Post(); !slices.Equal(l, []queue.Closed{{Item: good(0), Status: 1, N: 5}, wrong(1), wrong(2)}) {
		t.Fatal(l)
	}
}

func TestHead(t *testing.T) { // P25.1
	q := of(t, 5, bad(0), bad(1), good(2), bad(3), good(4))
	for range 3 {
		if x, ok := q.Head(); !ok || x != good(2) || q.Waits() != 3 || q.Len() != 5 {
			t.Fatal(x, q.Waits(), q.Len())
		}
	}
	q.Finish(1, 0)
	if x, ok := q.Head(); !ok || x != good(4) || q.Waits() != 1 {
		t.Fatal(x, q.Waits())
	}
	q.Finish(1, 0)
	if x, ok := q.Head(); ok || x != (queue.Item{}) || q.Len() != 5 {
		t.Fatal(x)
	}
	// It is settled though none waits then.
	only := of(t, 2, bad(0), bad(1))
	if x, ok := only.Head(); ok || x != (queue.Item{}) || only.Waits() != 0 || only.Len() != 2 {
		t.Fatal(x, only.Waits(), only.Len())
	}
}

func TestFinish(t *testing.T) { // P25.1
	for _, status := range wild {
		for _, n := range wild {
			q := of(t, 4, bad(0), good(1), bad(2), good(3))
			if e := q.Finish(status, n); e != api.OK || q.Waits() != 2 || q.Backlog() != 1 || q.Len() != 4 {
				t.Fatal(status, n, e, q.Waits())
			}
			if l := q.Post(); !slices.Equal(l, []queue.Closed{wrong(0), {Item: good(1), Status: status, N: n}, wrong(2)}) {
				t.Fatal(status, n, l)
			}
			if x, ok := q.Head(); !ok || x != good(3) {
				t.Fatal(x)
			}
		}
	}
}

// P25.1: where none that is not Bad waits, there is nothing to finish; the wrong ones are done all the same.
func TestFinishOfNone(t *testing.T) {
	q := of(t, 3, bad(0), bad(1))
	if e := q.Finish(1, 9); e != api.ErrEmpty || q.Waits() != 0 || q.Len() != 2 {
		t.Fatal(e, q.Waits(), q.Len())
	}
	if e := q.Finish(1, 9); e != api.ErrEmpty || q.Len() != 2 {
		t.Fatal(e, q.Len())
	}
	if l := q.Post(); !slices.Equal(l, []queue.Closed{wrong(0), wrong(1)}) {
		t.Fatal(l)
	}
	if e := queue.New(0).Finish(0, 0); e != api.ErrEmpty {
		t.Fatal(e)
	}
}

func TestPost(t *testing.T) { // P25.2
	q := of(t, 4, bad(0), good(1), bad(2))
	if l := q.Post(); !slices.Equal(l, []queue.Closed{wrong(0)}) || q.Len() != 2 || q.Waits() != 2 {
		t.Fatal(l, q.Len())
	}
	if l := q.Post(); len(l) != 0 || q.Len() != 2 {
		t.Fatal("what was posted is out of the queue", l)
	}
	if !q.Put(good(3)) || !q.Put(good(4)) || q.Put(good(5)) {
		t.Fatal("and its room is free")
	}
	q.Finish(1, 7)
	q.Finish(0, 0)
	if l := q.Post(); !slices.Equal(l, []queue.Closed{{Item: good(1), Status: 1, N: 7}, wrong(2), {Item: good(3)}}) || q.Len() != 1 {
		t.Fatal(l)
	}
}

// P3: what Post answers is new memory.
func TestPostedIsNew(t *testing.T) {
	q := of(t, 4, bad(0), bad(1), good(2), bad(3))
	f := q.Fork()
	l := q.Post()
	clear(append(l, l...)[:cap(l)])
	clear(l)
	q.Finish(1, 1)
	if got := q.Post(); !slices.Equal(got, []queue.Closed{{Item: good(2), Status: 1, N: 1}, wrong(3)}) {
		t.Fatal(got)
	}
	if got := f.Post(); !slices.Equal(got, []queue.Closed{wrong(0), wrong(1)}) {
		t.Fatal(got)
	}
	l = of(t, 4, bad(0), bad(1)).Post()
	for k := range 4 {
		q.Put(bad(10 + k))
	}
	q.Settle()
	if !slices.Equal(l, []queue.Closed{wrong(0), wrong(1)}) {
		t.Fatal(l)
	}
}

// P25.2: these ask, and settle nothing.
func TestNumbers(t *testing.T) {
	q := of(t, 6, bad(0), good(1), bad(2), bad(3), good(4))
	for range 3 {
		if q.Waits() != 5 || q.Backlog() != 2 || q.Len() != 5 {
			t.Fatal(q.Waits(), q.Backlog(), q.Len())
		}
	}
	for _, c := range []struct{ waits, backlog, length int }{{3, 1, 5}, {0, 0, 5}} {
		if q.Finish(1, 0) != api.OK || q.Waits() != c.waits || q.Backlog() != c.backlog || q.Len() != c.length {
			t.Fatal(c, q.Waits(), q.Backlog(), q.Len())
		}
	}
	q.Post()
	if q.Waits() != 0 || q.Backlog() != 0 || q.Len() != 0 {
		t.Fatal(q.Waits(), q.Backlog(), q.Len())
	}
}

func TestFork(t *testing.T) { // P25.2, P4
	q := of(t, 4, bad(0), good(1), good(2))
	q.Settle()
	f := q.Fork()
	if f == q || f.Len() != 3 || f.Waits() != 2 || f.Backlog() != 2 || !f.Put(good(30)) || f.Put(good(31)) || q.Len() != 3 {
		t.Fatal("a fork is as what it was made of", f.Len(), q.Len())
	}
	if !q.Put(good(40)) || q.Finish(1, 6) != api.OK || q.Finish(1, 7) != api.OK || f.Waits() != 3 {
		t.Fatal("each goes its own way")
	}
	f.Finish(9, 8)
	if l := f.Post(); !slices.Equal(l, []queue.Closed{wrong(0), {Item: good(1), Status: 9, N: 8}}) {
		t.Fatal(l)
	}
	if l := q.Post(); !slices.Equal(l, []queue.Closed{wrong(0), {Item: good(1), Status: 1, N: 6}, {Item: good(2), Status: 1, N: 7}}) {
		t.Fatal(l)
	}
	if x, ok := f.Head(); !ok || x != good(2) {
		t.Fatal(x)
	}
	if x, ok := q.Head(); !ok || x != good(40) {
		t.Fatal(x)
	}
	empty := queue.New(0).Fork()
	if empty == nil || empty.Len() != 0 || empty.Put(good(0)) {
		t.Fatal("of an empty one too")
	}
}

func TestOfNil(t *testing.T) { // P25.2
	var q *queue.Queue
	for _, n := range wild {
		if e := q.Finish(n, n); e != api.ErrNil {
			t.Fatal(n, e)
		}
	}
	if x, ok := q.Head(); ok || x != (queue.Item{}) {
		t.Fatal(x)
	}
	if q.Put(good(0)) || q.Put(bad(0)) || q.Settle() != 0 || len(q.Post()) != 0 || q.Waits() != 0 || q.Backlog() != 0 || q.Len() != 0 || q.Fork() != nil {
		t.Fatal("nil")
	}
}

func TestOfOneThatNoCallMade(t *testing.T) { // P1: it does not panic
	for _, q := range []*queue.Queue{{}, new(queue.Queue).Fork()} {
		q.Put(bad(0))
		q.Put(good(0))
		q.Settle()
		q.Head()
		q.Finish(1, 1)
		q.Post()
		q.Fork().Put(good(1))
		if q.Waits() < 0 || q.Backlog() < 0 || q.Len() < 0 {
			t.Fatal("numbers")
		}
	}
}

// act does one thing, the same to both, and tells of what is unlike.
func act(t *testing.T, d *dice, k int, q *queue.Queue, p *plain) {
	t.Helper()
	switch d.below(9) {
	case 0, 1, 2:
		x := good(k)
		x.Bad = d.below(2) == 0
		if got, want := q.Put(x), p.put(x); got != want {
			t.Fatal("put", x, got, want)
		}
	case 3:
		if got, want := q.Settle(), p.settle(); got != want {
			t.Fatal("settle", got, want)
		}
	case 4:
		x, ok := q.Head()
		if y, want := p.head(); x != y || ok != want {
			t.Fatal("head", x, ok, y, want)
		}
	case 5, 6, 7:
		status, n := d.below(4)-1, d.below(40)-1
		if got, want := q.Finish(status, n), p.finish(status, n); got != want {
			t.Fatal("finish", got, want)
		}
	case 8:
		if got, want := q.Post(), p.post(); !slices.Equal(got, want) {
			t.Fatal("post", got, want)
		}
	}
}

// P25.1, P25.2, P4: any calls, with forks that go their own ways.
func TestAgainstPlain(t *testing.T) {
	d := dice(25)
	for range 80 {
		limit := d.below(20) - 1
		queues := []*queue.Queue{queue.New(limit)}
		plains := []*plain{{room: min(max(limit, 0), api.MaxRing)}}
		for k := range 300 {
			i := d.below(len(queues))
			act(t, &d, k, queues[i], plains[i])
			if d.below(60) == 0 {
				queues, plains = append(queues, queues[i].Fork()), append(plains, plains[i].fork())
			}
			for j := range queues {
				same(t, queues[j], plains[j])
			}
			emptied(t, queues[i], plains[i])
		}
	}
}

// P25.3: requests are posted in the order in which they were put, each once. P25.4: one that is not Bad is posted only
// behind a Finish of its own, and with what that said; one that is Bad needs none.
func TestInOrderEachOnce(t *testing.T) {
	d := dice(4)
	for _, limit := range []int{1, 2, 7, 16} {
		q, next, finished := queue.New(limit), 0, 0
		var put, posted []queue.Item
		for range 4000 {
			switch d.below(4) {
			case 0, 1:
				x := good(next)
				x.Bad = d.below(3) == 0
				if q.Put(x) {
					put, next = append(put, x), next+1
				}
			case 2:
				if q.Finish(1, finished) == api.OK {
					finished++
				}
			case 3:
				for _, c := range q.Post() {
					posted = append(posted, c.Item)
					goods := 0
					for _, x := range posted {
						if !x.Bad {
							goods++
						}
					}
					if c.Item.Bad && (c.Status != api.Wrong || c.N != 0) || !c.Item.Bad && (c.Status != api.Good || c.N != goods-1 || goods > finished) {
						t.Fatal(limit, c, goods, finished)
					}
				}
				// A wrong one that has no good one ahead of it is not held up.
				if len(posted) < len(put) && put[len(posted)].Bad {
					t.Fatal(limit, "a wrong one was held up", len(posted))
				}
			}
			if !slices.Equal(posted, put[:len(posted)]) || q.Len() != len(put)-len(posted) {
				t.Fatal(limit, len(put), len(posted))
			}
		}
		if len(posted) < 100 || finished < 30 {
			t.Fatal("too few", limit, len(posted), finished)
		}
	}
}

func TestExample(t *testing.T) {
	q := of(t, 3, bad(0), good(1), bad(2))
	if l := q.Post(); !slices.Equal(l, []queue.Closed{wrong(0)}) {
		t.Fatal(l)
	}
	q.Finish(1, 4)
	if l := q.Post(); !slices.Equal(l, []queue.Closed{{Item: good(1), Status: 1, N: 4}, wrong(2)}) {
		t.Fatal(l)
	}
}
