package post_test

import (
	"math"
	"slices"
	"testing"

	"campanile/api"
	"campanile/mem"
	"campanile/post"
	"campanile/queue"
)

// The calls have just these signatures.
var (
	_ func(m *mem.Memory, c api.Client, taken, done int) ([]queue.Item, api.Errno)   = post.Collect
	_ func(m *mem.Memory, c api.Client, done int, l []queue.Closed) (int, api.Errno) = post.Write
	_ func(tick int, l []queue.Closed) []api.Mark                                    = post.Marks
)

// extremes are numbers of which some go round if anything is added to them.
var extremes = []int{math.MinInt, math.MinInt + 1, math.MinInt32, -65537, -257, -256, -1, math.MaxInt32, 1 << 32, math.MaxInt - 1, math.MaxInt}

// sizes are those that a ring may have.
var sizes = []int{1, 2, 4, 8, 16}

// leaves is what n leaves of a number, from 0 on.
func leaves(number, n int) int { return (number%n + n) % n }

// dice are numbers that come the same each time.
type dice uint32

// below is a number from 0 on, below n.
func (d *dice) below(n int) int {
	*d = *d*1664525 + 1013904223
	return int(uint32(*d)>>8) % n
}

// text is n drawn bytes.
func (d *dice) text(n int) string {
	out := make([]byte, n)
	for i := range out {
		out[i] = byte(d.below(256))
	}
	return string(out)
}

// from is a memory of bytes.
func from(t *testing.T, s string) *mem.Memory {
	t.Helper()
	m := mem.New(len(s))
	if m.Put(0, s) != api.OK {
		t.Fatal("no memory")
	}
	return m
}

// all is a memory's bytes.
func all(t *testing.T, m *mem.Memory) string {
	t.Helper()
	s, e := m.Text(0, m.Size())
	if e != api.OK {
		t.Fatal(e)
	}
	return s
}

// put is bytes with others at a place.
func put(s string, at int, bytes ...int) string {
	out := []byte(s)
	for i, b := range bytes {
		out[at+i] = byte(b)
	}
	return string(out)
}

// row is a client with a ring of n descriptors, whose memory of 200 bytes begins at 300, and whose ring begins at 30 there.
func row(n int) api.Client {
	return api.Client{Base: 300, Size: 200, Ring: n, At: 30, Quota: 1, Queue: 1, Mac: 7, Channel: 8, First: 9, Sectors: 2}
}

const (
	asks = 330 // where the byte stands that the client writes, in the memory of a row
	says = 331 // and that which it reads
	base = 332 // and the first descriptor
)

// bytes are a descriptor's, told by the document's words.
func bytes(d api.Desc) []int {
	out := []int{int(d.What), int(d.Status)}
	for _, n := range []int{d.Addr, d.Len, d.Arg} {
		out = append(out, leaves(n, 256), leaves(n/256, 256))
	}
	return out
}

// good is a descriptor that the client of a row may ask for, of each k another one.
func good(k int) api.Desc {
	return api.Desc{What: api.What(1 + k%2), Status: uint8(k % 3), Addr: k % 150, Len: k % 33, Arg: k * 77 % 65536}
}

// filled is a memory in which the k'th descriptors stand, each at its place, and the byte that tells how many were put.
func filled(t *testing.T, c api.Client, first, count int) *mem.Memory {
	t.Helper()
	d := dice(29)
	s := d.text(600)
	for k := first; k < first+count; k++ {
		s = put(s, c.Base+c.At+2+8*(k%c.Ring), bytes(good(k))...)
	}
	return from(t, put(s, c.Base+c.At, leaves(first+count, 256)))
}

// collects asks for requests of just these descriptors, none of which is Bad; it changes nothing.
func collects(t *testing.T, m *mem.Memory, c api.Client, taken, done, count int) {
	t.Helper()
	was := all(t, m)
	l, e := post.Collect(m, c, taken, done)
	if e != api.OK || len(l) != count {
		t.Fatal(c, taken, done, e, len(l), "not", count)
	}
	for i, x := range l {
		if want := (queue.Item{K: taken + i, D: good(taken + i)}); x != want {
			t.Fatal(c, taken, done, x, "not", want)
		}
	}
	if all(t, m) != was {
		t.Fatal("it has changed the memory")
	}
}

func TestCollect(t *testing.T) { // P29.1
	for _, n := range sizes {
		c := row(n)
		for _, taken := range []int{0, 1, 2, 3, 5, 15, 16, 17, 100, 254, 255, 256, 257, 511, 65535, 1 << 20, math.MaxInt32 - 16} {
			for count := range n + 1 {
				collects(t, filled(t, c, taken, count), c, taken, taken, count)
			}
		}
	}
}

// P29.1: what was taken and not completed has its place yet.
func TestCollectBehindOthers(t *testing.T) {
	for _, n := range sizes {
		c := row(n)
		for open := range n + 1 {
			for count := range 2*n + 1 {
				taken := 250 + open
				room := min(count, n-open)
				m := filled(t, c, taken, room)
				m.Set(asks, taken+count)
				collects(t, m, c, taken, 250, room)
			}
		}
	}
}

// P29.1, P29.3: the byte may say anything.
func TestCollectOfAnyByte(t *testing.T) {
	for _, n := range sizes {
		c := row(n)
		for b := range 256 {
			for _, taken := range []int{0, 1, 7, 128, 255, 256, 300} {
				m := filled(t, c, taken, n)
				m.Set(asks, b)
				collects(t, m, c, taken, taken, min(n, leaves(b-taken, 256)))
				if taken > 0 {
					collects(t, m, c, taken, taken-1, min(n-1, leaves(b-taken, 256)))
				}
			}
		}
	}
}

// P29.1: of numbers that can't be, ring.Take tells 0.
func TestCollectOfWrongNumbers(t *testing.T) {
	c := row(4)
	m := filled(t, c, 0, 4)
	for b := range 256 {
		m.Set(asks, b)
		for _, x := range [][2]int{{3, 4}, {5, 0}, {0, 1}, {-1, -1}, {0, -1}, {-1, 0}, {4, 0}, {math.MaxInt32 + 1, math.MaxInt32 + 1}, {math.MaxInt, math.MinInt}} {
			collects(t, m, c, x[0], x[1], 0)
		}
		for _, x := range extremes {
			if x < 0 || x > math.MaxInt32 {
				collects(t, m, c, x, x, 0)
			}
			collects(t, m, c, x, leaves(x, 2), 0)
			collects(t, m, c, 1, x, 0)
		}
	}
}

// P29.1: a request has its descriptor as it stands there, and is Bad, if the client may not ask for that.
func TestCollectOfAnyDescriptor(t *testing.T) {
	c := row(4)
	cases := []struct {
		d   api.Desc
		bad bool
	}{
		{api.Desc{}, true}, // the bytes 0 ask for nothing
		{api.Desc{What: api.Say}, false},
		{api.Desc{What: 7}, true},
		{api.Desc{What: 255, Status: 255, Addr: 65535, Len: 65535, Arg: 65535}, true},
		{api.Desc{What: api.Say, Status: 255, Arg: 65535}, false},
		{api.Desc{What: api.Say, Len: 32}, false},
		{api.Desc{What: api.Say, Len: 33}, true},
		{api.Desc{What: api.Hear, Addr: 196, Len: 4}, false},
		{api.Desc{What: api.Hear, Addr: 197, Len: 4}, true},
		{api.Desc{What: api.Take, Addr: 200}, false},
		{api.Desc{What: api.Take, Addr: 201}, true},
		{api.Desc{What: api.Take, Addr: 512, Len: 256}, true},
		{api.Desc{What: api.Send, Arg: 255}, false},
		{api.Desc{What: api.Send, Arg: 256}, true},
		{api.Desc{What: api.Load, Len: 32}, false},
		{api.Desc{What: api.Load, Len: 16, Arg: 1}, false},
		{api.Desc{What: api.Load, Len: 32, Arg: 1}, true},
		{api.Desc{What: api.Load, Len: 16, Arg: 2}, true},
		{api.Desc{What: api.Load}, true},
		{api.Desc{What: api.Store, Len: 15}, true},
		{api.Desc{What: api.Store, Addr: 184, Len: 16}, false},
		{api.Desc{What: api.Store, Addr: 185, Len: 16}, true},
		{api.Desc{What: api.Store, Len: 16, Arg: 512}, true},
	}
	for k, x := range cases {
		d := dice(k)
		m := from(t, put(put(d.text(600), asks, k+1), base+8*(k%4), bytes(x.d)...))
		l, e := post.Collect(m, c, k, k)
		if e != api.OK || len(l) != 1 || l[0] != (queue.Item{K: k, D: x.d, Bad: x.bad}) {
			t.Error(x, l, e)
		}
	}
}

// small are memories that have not all of a client's.
func small(t *testing.T, c api.Client) []*mem.Memory {
	t.Helper()
	d := dice(3)
	s := d.text(c.Base + c.Size - 1)
	return []*mem.Memory{nil, mem.New(0), from(t, s[:c.Base]), from(t, s[:c.Base+1]), from(t, s[:c.Base+c.At+2+8*c.Ring]), from(t, s)}
}

func TestNotThere(t *testing.T) { // P29.1, P29.2, P2
	closed := []queue.Closed{{Item: queue.Item{K: 1}, Status: 1, N: 1}}
	for _, n := range sizes {
		c := row(n)
		for _, m := range small(t, c) {
			was := m.Fork()
			for b := range 256 {
				if m.Size() > asks {
					m.Set(asks, b)
					was.Set(asks, b)
				}
				if l, e := post.Collect(m, c, 1, 1); e != api.ErrRange || len(l) != 0 {
					t.Fatal(m.Size(), l, e)
				}
			}
			for _, l := range [][]queue.Closed{nil, closed} {
				if k, e := post.Write(m, c, 5, l); e != api.ErrRange || k != 0 {
					t.Fatal(m.Size(), k, e)
				}
			}
			if len(mem.Diff(m, was)) != 0 {
				t.Fatal(m.Size(), "it has changed the memory")
			}
		}
	}
}

// P29.1, P29.2: a client's memory may end where all memory ends, and its ring where its memory does.
func TestJustThere(t *testing.T) {
	for _, n := range sizes {
		size := max(api.MinSize, 2+8*n)
		for _, at := range []int{0, size - 2 - 8*n} {
			c := api.Client{Base: 128, Size: size, Ring: n, At: at}
			d := dice(n)
			s := put(d.text(128+size), 128+at, n)
			for k := range n {
				s = put(s, 128+at+2+8*k, bytes(api.Desc{What: api.Say, Addr: k, Len: 1, Arg: 999})...)
			}
			m := from(t, s)
			l, e := post.Collect(m, c, 0, 0)
			if e != api.OK || len(l) != n {
				t.Fatal(n, at, l, e)
			}
			var closed []queue.Closed
			want := put(s, 128+at+1, n)
			for k, x := range l {
				if x != (queue.Item{K: k, D: api.Desc{What: api.Say, Addr: k, Len: 1, Arg: 999}}) {
					t.Fatal(n, at, x)
				}
				closed = append(closed, queue.Closed{Item: x, Status: 3, N: 258 + k})
				want = put(put(want, 128+at+2+8*k+1, 3), 128+at+2+8*k+4, 2+k, 1)
			}
			if k, e := post.Write(m, c, 0, closed); e != api.OK || k != n || all(t, m) != want {
				t.Fatal(n, at, k, e)
			}
		}
	}
	top := api.Client{Base: api.Physical - api.MaxSize, Size: api.MaxSize, Ring: 16, At: api.MaxSize - 130}
	m := mem.New(api.Physical)
	m.Set(api.Physical-130, 16)
	if l, e := post.Collect(m, top, 0, 0); e != api.OK || len(l) != 16 {
		t.Fatal(l, e)
	}
	if k, e := post.Write(m, top, 15, []queue.Closed{{Item: queue.Item{K: 15}, Status: 1, N: 513}}); e != api.OK || k != 16 {
		t.Fatal(k, e)
	}
	if s, _ := m.Text(api.Physical-130, 130); s[1] != 16 || s[122:] != "\x00\x01\x00\x00\x01\x02\x00\x00" {
		t.Fatalf("%q", s)
	}
}

// The rest of a row is not looked at.
func TestRestOfTheRow(t *testing.T) {
	for _, x := range append([]int{0, 1}, extremes...) {
		c := row(4)
		c.Quota, c.Queue, c.Mac, c.Channel, c.First = x, x, x, x, x
		m := filled(t, c, 6, 4)
		collects(t, m, c, 6, 6, 4)
		if k, e := post.Write(m, c, 6, []queue.Closed{{Item: queue.Item{K: 6}}}); e != api.OK || k != 7 {
			t.Fatal(x, k, e)
		}
	}
}

// writes asks that a Write of these changes just the bytes that the document tells.
func writes(t *testing.T, c api.Client, done int, l ...queue.Closed) {
	t.Helper()
	d := dice(len(l) + 1)
	s := d.text(600)
	m := from(t, s)
	for _, x := range l {
		at := c.Base + c.At + 2 + 8*(x.Item.K%c.Ring)
		s = put(s, at+1, leaves(x.Status, 256))
		s = put(s, at+4, leaves(x.N, 256), leaves(leaves(x.N, 65536)/256, 256))
	}
	if len(l) > 0 {
		s = put(s, c.Base+c.At+1, leaves(done+len(l), 256))
	}
	kept := slices.Clone(l)
	k, e := post.Write(m, c, done, l)
	if e != api.OK || k != done+len(l) {
		t.Fatal(done, len(l), k, e)
	}
	if all(t, m) != s {
		t.Fatal(done, l, mem.Diff(m, from(t, s)))
	}
	if !slices.Equal(l, kept) {
		t.Fatal("what was handed in is not as it was")
	}
}

// done is what is done of the k'th one; what stands in the request itself plays no part.
func done(k, status, n int) queue.Closed {
	return queue.Closed{Item: queue.Item{K: k, D: api.Desc{What: api.Load, Status: 99, Addr: 98, Len: 97, Arg: 96}, Bad: k%2 == 0}, Status: status, N: n}
}

func TestWrite(t *testing.T) { // P29.2
	for _, n := range sizes {
		c := row(n)
		for _, first := range []int{0, 1, 2, 15, 16, 100, 254, 255, 256, 257, 65535, 1 << 20, math.MaxInt32 - 16} {
			var l []queue.Closed
			for i := range n {
				writes(t, c, first, l...)
				l = append(l, done(first+i, 1+i%2, i*3))
			}
			writes(t, c, first, l...)
		}
	}
}

// P29.2: of a status one byte counts, of a length two.
func TestWriteOfAnyNumbers(t *testing.T) {
	numbers := append([]int{0, 1, 2, 32, 127, 128, 255, 256, 257, 511, 512, 32767, 32768, 65535, 65536, 65537}, extremes...)
	for _, status := range numbers {
		for _, n := range numbers {
			writes(t, row(2), 3, done(3, status, n))
		}
	}
}

// P29.2: the byte tells of what was done and of how many these are, whichever ones they are.
func TestWriteOfAnyDone(t *testing.T) {
	for d := -300; d < 600; d++ {
		writes(t, row(4), d)
		writes(t, row(4), d, done(9, 1, 5))
		writes(t, row(4), d, done(9, 1, 5), done(2, 2, 6), done(7, 1, 7))
	}
}

// P29.2: in order: of two at one place the last one stands.
func TestWriteInOrder(t *testing.T) {
	writes(t, row(4), 10, done(9, 1, 500), done(9, 2, 0))
	writes(t, row(4), 10, done(13, 2, 0), done(9, 1, 500), done(5, 0, 65535))
	var l []queue.Closed
	for k := range 300 {
		l = append(l, done(k*7, k, k*k))
	}
	writes(t, row(1), 0, l...)
	writes(t, row(8), 255, l...)
}

// P29.2: the k'th place is 0, if k is below 0 (layer 23).
func TestWriteOfWrongK(t *testing.T) {
	for _, k := range extremes {
		m := from(t, string(make([]byte, 600)))
		n, e := post.Write(m, row(4), 0, []queue.Closed{{Item: queue.Item{K: k}, Status: 1}})
		at := base
		if k > 0 {
			at += 8 * (k % 4)
		}
		if want := put(put(string(make([]byte, 600)), at+1, 1), says, 1); n != 1 || e != api.OK || all(t, m) != want {
			t.Fatal(k, n, e)
		}
	}
}

func TestMarks(t *testing.T) { // P29.2
	numbers := append([]int{0, 1, 2, 255, 256, 65536}, extremes...)
	for _, tick := range numbers {
		var l []queue.Closed
		var want []api.Mark
		for i, n := range numbers {
			x := done(n, numbers[(i+1)%len(numbers)], numbers[(i+2)%len(numbers)])
			l = append(l, x)
			want = append(want, api.Mark{Tick: tick, Sort: api.Posted, A: n, B: x.Status, N: x.N})
			kept := slices.Clone(l)
			if got := post.Marks(tick, l); !slices.Equal(got, want) || !slices.Equal(l, kept) {
				t.Fatal(tick, got, want)
			}
		}
	}
	if len(post.Marks(3, nil)) != 0 || len(post.Marks(3, []queue.Closed{})) != 0 {
		t.Fatal("of none")
	}
}

// P3: what is answered is new memory.
func TestAnswersAreNew(t *testing.T) {
	c := row(4)
	m := filled(t, c, 0, 4)
	l, _ := post.Collect(m, c, 0, 0)
	kept := slices.Clone(l)
	m.Put(0, string(make([]byte, 600)))
	if !slices.Equal(l, kept) {
		t.Fatal("it lies in the memory")
	}
	again := filled(t, c, 0, 4)
	clear(l)
	collects(t, again, c, 0, 0, 4)
	closed := []queue.Closed{done(0, 1, 1)}
	k := post.Marks(1, closed)
	clear(closed)
	if k[0] != (api.Mark{Tick: 1, Sort: api.Posted, A: 0, B: 1, N: 1}) {
		t.Fatal(k)
	}
}

// P29.3: whatever the client writes, nothing outside the ring is written, and what is open is no more than it has places.
func TestAnyClient(t *testing.T) {
	for _, n := range sizes {
		d, c := dice(n), row(n)
		m := from(t, d.text(600))
		var open []queue.Item
		taken, completed := 0, 0
		for range 3000 {
			m.Put(c.Base+d.below(150), d.text(d.below(50)))
			m.Set(asks, d.below(256))
			if d.below(3) == 0 {
				m.Set(asks, taken+d.below(3))
			}
			l, e := post.Collect(m, c, taken, completed)
			if e != api.OK {
				t.Fatal(e)
			}
			taken, open = taken+len(l), append(open, l...)
			if len(open) > n || taken-completed > n {
				t.Fatal(n, len(open), taken, completed)
			}
			var closed []queue.Closed
			for range d.below(len(open) + 1) {
				closed = append(closed, queue.Closed{Item: open[0], Status: d.below(600) - 300, N: d.below(70000) - 300})
				open = open[1:]
			}
			was := m.Fork()
			completed, e = post.Write(m, c, completed, closed)
			for _, s := range mem.Diff(was, m) {
				if s.From < says || s.To > base+8*n {
					t.Fatal(n, s)
				}
			}
			if b, _ := m.Get(says); e != api.OK || completed != taken-len(open) || len(closed) > 0 && b != leaves(completed, 256) {
				t.Fatal(n, e, completed, taken, b)
			}
		}
		if completed < 500 {
			t.Fatal("too few", n, completed)
		}
	}
}

// P1: no call panics, whatever the row; what lies outside the client's memory stays as it is.
func TestAnyRow(t *testing.T) {
	numbers := append([]int{0, 1, 2, 3, 4, 16, 17, 32, 64, 200, 300, 330, 599, 600, 601, 1024, 1025, 16384}, extremes...)
	d := dice(99)
	s := d.text(600)
	pick := func() int { return numbers[d.below(len(numbers))] }
	for range 40000 {
		c := api.Client{Base: pick(), Size: pick(), Ring: pick(), At: pick(), Sectors: pick()}
		m := from(t, s)
		taken := pick()
		l, e := post.Collect(m, c, taken, taken-d.below(3))
		if e != api.OK && len(l) > 0 || len(l) > 16 || all(t, m) != s {
			t.Fatal(c, l, e)
		}
		k, f := post.Write(m, c, pick(), []queue.Closed{done(pick(), pick(), pick()), done(pick(), 1, 1)})
		if there := c.Base >= 0 && c.Size >= 0 && c.Size <= 600 && c.Base <= 600-c.Size; !there && (e != api.ErrRange || f != api.ErrRange || k != 0) {
			t.Fatal(c, e, f, k)
		}
		for _, x := range mem.Diff(m, from(t, s)) {
			if c.Base < 0 || c.Size < 0 || x.From < c.Base || x.To-c.Base > c.Size {
				t.Fatal(c, x)
			}
		}
	}
}

func TestExample(t *testing.T) {
	c := row(2)
	collects(t, filled(t, c, 0, 2), c, 0, 0, 2)
	m := filled(t, c, 0, 2)
	m.Set(asks, 3)
	collects(t, m, c, 0, 0, 2)
}
