package ring_test

import (
	"math"
	"math/big"
	"slices"
	"testing"

	"campanile/api"
	"campanile/conf"
	"campanile/ring"
)

// The calls have just these signatures.
var (
	_ func(int) bool               = ring.Right
	_ func(int) int                = ring.Size
	_ func(int, int) int           = ring.Place
	_ func(int, int, int) int      = ring.Addr
	_ func(int) int                = ring.Put
	_ func(int) int                = ring.Done
	_ func(int, int) int           = ring.New
	_ func(int, int, int) int      = ring.Room
	_ func(int, int, int, int) int = ring.Take
)

// sizes are those that a ring may have.
var sizes = []int{1, 2, 4, 8, 16}

// numbers are some below 0, some that are none that count, and the edges.
func numbers() []int {
	out := []int{math.MinInt, math.MinInt + 1, math.MinInt32, math.MaxUint32, math.MaxInt - 1, math.MaxInt}
	for _, n := range []int{0, 8, 16, 256, api.MaxSize, 65536, api.MaxNum, 1 << 40} {
		for d := -2; d <= 2; d++ {
			out = append(out, n+d, -n+d)
		}
	}
	slices.Sort(out)
	return slices.Compact(out)
}

// leaves is what n leaves of put less taken, reckoned without going round.
func leaves(put, taken, n int) int {
	d := new(big.Int).Sub(big.NewInt(int64(put)), big.NewInt(int64(taken)))
	return int(d.Mod(d, big.NewInt(int64(n))).Int64())
}

// room is how many may be taken, as the document's words tell it.
func room(taken, done, n int) int {
	if !slices.Contains(sizes, n) || min(taken, done) < 0 || max(taken, done) > api.MaxNum {
		return 0
	}
	r := new(big.Int).Add(big.NewInt(int64(n)-int64(taken)), big.NewInt(int64(done)))
	if r.Sign() < 0 || r.Cmp(big.NewInt(int64(n))) > 0 {
		return 0
	}
	return int(r.Int64())
}

// dice are numbers that come the same each time.
type dice uint32

// below is a number from 0 on, below n.
func (d *dice) below(n int) int {
	*d = *d*1664525 + 1013904223
	return int(uint32(*d)>>8) % n
}

func TestEntry(t *testing.T) {
	const eight uint8 = ring.Entry // a constant without a type
	if eight != 8 {
		t.Fatal(eight)
	}
}

func TestRightAndSize(t *testing.T) { // P23.1
	for n := -5000; n <= 5000; n++ {
		right, size := slices.Contains(sizes, n), 0
		if right {
			size = 2 + 8*n
		}
		if ring.Right(n) != right || ring.Size(n) != size || ring.Size(n) != conf.Ring(n) {
			t.Fatal(n, ring.Right(n), ring.Size(n))
		}
	}
	for i := range 63 {
		for _, n := range []int{1 << i, -1 << i, 1<<i + 1, 1<<i - 1} {
			if ring.Right(n) != slices.Contains(sizes, n) {
				t.Fatal(n, ring.Right(n))
			}
		}
	}
	for _, n := range numbers() {
		if right := slices.Contains(sizes, n); ring.Right(n) != right || ring.Size(n) > 0 != right {
			t.Fatal(n, ring.Right(n), ring.Size(n))
		}
	}
}

func TestPlace(t *testing.T) { // P23.1
	for _, n := range sizes {
		want := 0
		for k := range 700 {
			if got := ring.Place(k, n); got != want {
				t.Fatal(k, n, got, want)
			}
			want++
			if want == n {
				want = 0
			}
		}
	}
	for _, k := range numbers() {
		for n := -3; n <= 40; n++ {
			want := 0
			if slices.Contains(sizes, n) && k >= 0 {
				want = leaves(k, 0, n)
			}
			if got := ring.Place(k, n); got != want {
				t.Fatal(k, n, got, want)
			}
		}
		for _, n := range numbers() {
			if got := ring.Place(k, n); got != 0 && !slices.Contains(sizes, n) {
				t.Fatal(k, n, got)
			}
		}
	}
}

// started is where a ring stands: below 0 as 0, above api.MaxSize as that.
func started(at int) int {
	switch {
	case at < 0:
		return 0
	case at > 1024:
		return 1024
	}
	return at
}

func TestAddresses(t *testing.T) { // P23.1
	for _, at := range append(numbers(), 1, 30, 40, 512) {
		if got := ring.Put(at); got != started(at) {
			t.Fatal("put", at, got)
		}
		if got := ring.Done(at); got != started(at)+1 {
			t.Fatal("done", at, got)
		}
		for _, k := range append(numbers(), 5, 14, 15, 254, 300) {
			for _, n := range append(numbers(), 3, 4, 5) {
				if got, want := ring.Addr(at, k, n), started(at)+2+8*ring.Place(k, n); got != want {
					t.Fatal(at, k, n, got, want)
				}
			}
		}
	}
	for _, c := range [][4]int{
		{40, 0, 8, 42}, {40, 1, 8, 50}, {40, 7, 8, 98}, {40, 8, 8, 42}, {40, 9, 8, 50},
		{-3, 0, 8, 2}, {-3, 1, 8, 10}, {1024, 15, 16, 1146}, {1025, 15, 16, 1146}, {40, -1, 8, 42}, {40, 3, 5, 42},
	} {
		if got := ring.Addr(c[0], c[1], c[2]); got != c[3] {
			t.Fatal(c, got)
		}
	}
}

// P23.1, and chapter 23's words: a ring's parts are apart, and fill just its bytes.
func TestPartsFillTheRing(t *testing.T) {
	for _, n := range sizes {
		for _, at := range []int{0, 1, 30, 900} {
			uses := map[int]int{ring.Put(at): 1}
			uses[ring.Done(at)]++
			for k := range n {
				for b := range ring.Entry {
					uses[ring.Addr(at, k, n)+b]++
				}
			}
			for a := at; a < at+ring.Size(n); a++ {
				if uses[a] != 1 {
					t.Fatal(n, at, a, uses[a])
				}
			}
			if len(uses) != ring.Size(n) {
				t.Fatal(n, at, len(uses))
			}
		}
	}
}

func TestNew(t *testing.T) { // P23.2
	for put := -300; put < 600; put++ {
		for taken := range 600 {
			if got := ring.New(put, taken); got != leaves(put, taken, 256) {
				t.Fatal(put, taken, got)
			}
		}
	}
	for _, put := range numbers() {
		for _, taken := range numbers() {
			if got := ring.New(put, taken); got != leaves(put, taken, 256) {
				t.Fatal(put, taken, got)
			}
		}
	}
	for _, c := range [][3]int{{0, 0, 0}, {3, 0, 3}, {0, 1, 255}, {255, 0, 255}, {256, 0, 0}, {1, 254, 3}, {1, 254 + 256, 3}, {-1, 254, 1}, {7, -1, 8}} {
		if got := ring.New(c[0], c[1]); got != c[2] {
			t.Fatal(c, got)
		}
	}
}

func TestRoom(t *testing.T) { // P23.2
	for n := -2; n <= 34; n++ {
		for taken := -2; taken < 50; taken++ {
			for done := -2; done < 50; done++ {
				if got := ring.Room(taken, done, n); got != room(taken, done, n) {
					t.Fatal(taken, done, n, got)
				}
			}
		}
		for _, taken := range numbers() {
			for _, done := range numbers() {
				if got := ring.Room(taken, done, n); got != room(taken, done, n) {
					t.Fatal(taken, done, n, got)
				}
			}
		}
	}
	const most = api.MaxNum
	for _, c := range [][4]int{
		{0, 0, 4, 4}, {3, 0, 4, 1}, {4, 0, 4, 0}, {5, 0, 4, 0}, {3, 4, 4, 0}, {4, 4, 4, 4}, {0, 0, 3, 0}, {0, 0, 32, 0},
		{most, most, 16, 16}, {most, most - 16, 16, 0}, {most, most - 15, 16, 1}, {most, most - 17, 16, 0},
		{most + 1, most, 16, 0}, {most + 1, most + 1, 16, 0}, {most, 0, 16, 0}, {0, most, 16, 0},
		{-1, -1, 4, 0}, {-1, 0, 4, 0}, {0, -1, 4, 0}, {2, -1, 4, 0}, {math.MinInt, math.MinInt, 4, 0}, {math.MaxInt, math.MaxInt, 4, 0},
	} {
		if got := ring.Room(c[0], c[1], c[2]); got != c[3] {
			t.Fatal(c, got)
		}
	}
}

func TestTake(t *testing.T) { // P23.2
	for n := -1; n <= 17; n++ {
		for put := range 256 {
			for _, taken := range []int{0, 3, 7, 254, 255, 256, 261, api.MaxNum} {
				for done := taken - 18; done <= taken+2; done++ {
					if got, want := ring.Take(put, taken, done, n), min(leaves(put, taken, 256), room(taken, done, n)); got != want {
						t.Fatal(put, taken, done, n, got, want)
					}
				}
			}
		}
	}
	for _, put := range numbers() {
		for _, taken := range numbers() {
			for _, done := range numbers() {
				for _, n := range []int{math.MinInt, -4, 0, 1, 3, 4, 16, 32, math.MaxInt} {
					if got, want := ring.Take(put, taken, done, n), min(leaves(put, taken, 256), room(taken, done, n)); got != want {
						t.Fatal(put, taken, done, n, got, want)
					}
				}
			}
		}
	}
}

// P23.3: whatever byte stands there, what is taken and not completed has places of its own.
func TestOpenOnesHavePlacesOfTheirOwn(t *testing.T) {
	d := dice(3)
	for _, n := range sizes {
		for range 30 {
			taken, done, used := 0, 0, map[int]int{}
			for range 1000 {
				for range ring.Take(d.below(256), taken, done, n) {
					p := ring.Place(taken, n)
					if k, there := used[p]; there || p < 0 || p >= n {
						t.Fatal("a place twice", n, taken, k, p)
					}
					used[p] = taken
					taken++
				}
				for range d.below(taken - done + 1) {
					delete(used, ring.Place(done, n))
					done++
				}
			}
			if taken < 300 {
				t.Fatal("too few to go round", n, taken)
			}
		}
	}
}

// P23.4: a client that has put no more than n beyond what was completed gets all taken, in order.
func TestAllAreTakenInOrder(t *testing.T) {
	d := dice(8)
	for _, n := range sizes {
		put, taken, done := 0, 0, 0
		held := make([]int, n) // at each place what the client has put there
		for step := range 5000 {
			for range d.below(n - (put - done) + 1) {
				held[put%n] = put
				put++
			}
			if d.below(3) == 0 {
				if got := ring.Take(put%256, taken, done, n); got != put-taken {
					t.Fatal(n, step, put, taken, done, got)
				}
				for taken < put {
					if got := held[ring.Place(taken, n)]; got != taken {
						t.Fatal("in order", n, taken, got)
					}
					taken++
				}
			}
			done += d.below(taken - done + 1)
		}
		if put < 512 {
			t.Fatal("too few to go round", n, put)
		}
	}
}

func TestTooManyPut(t *testing.T) { // P23.2, and the fifth example of the whole
	for _, n := range sizes {
		if got := ring.Take(200, 0, 0, n); got != n {
			t.Fatal(n, got)
		}
	}
}

func TestExample(t *testing.T) {
	if ring.New(1, 254) != 3 || ring.Room(254, 254, 4) != 4 || ring.Take(1, 254, 254, 4) != 3 {
		t.Fatal("three are new, and taken")
	}
	for i, place := range []int{2, 3, 0} {
		if got := ring.Place(254+i, 4); got != place {
			t.Fatal(i, got)
		}
	}
}
