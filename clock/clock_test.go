package clock_test

import (
	"math"
	"slices"
	"testing"

	"campanile/api"
	"campanile/clock"
)

// The calls have just these signatures.
var (
	_ func(int) bool                       = clock.Right
	_ func(int, int) (int, int)            = clock.Frame
	_ func(int, int, int) int              = clock.At
	_ func(int, int, int) int              = clock.Next
	_ func(api.Span, api.Span, int) int    = clock.Count
	_ func(int, int, int, ...api.Span) int = clock.Nth
)

func sp(from, to int) api.Span { return api.Span{From: from, To: to} }

// wrong are frame lengths that are not right.
var wrong = []int{math.MinInt, -api.MaxFrame, -1, 0, api.MaxFrame + 1, 1 << 32, math.MaxInt}

// lengths are right ones, small enough to go through them tick by tick.
var lengths = []int{1, 2, 3, 4, 7}

// spans are small ones, and such that are none.
func spans() []api.Span {
	var out []api.Span
	for from := -1; from <= 5; from++ {
		for to := -1; to <= 5; to++ {
			out = append(out, sp(from, to))
		}
	}
	return append(out, sp(0, math.MaxInt), sp(3, math.MaxInt), sp(math.MinInt, 9), sp(math.MinInt, math.MaxInt), sp(math.MaxInt-1, math.MaxInt), sp(math.MaxInt, math.MinInt))
}

// due says by the document's words whether a tick's offset is in one of the spans.
func due(tick, f int, offsets ...api.Span) bool {
	for _, s := range offsets {
		if 0 <= s.From && s.From <= tick%f && tick%f < s.To {
			return true
		}
	}
	return false
}

func TestRight(t *testing.T) { // P4.1
	for f := -3; f <= api.MaxFrame+3; f++ {
		if clock.Right(f) != (1 <= f && f <= api.MaxFrame) {
			t.Fatal(f)
		}
	}
	for _, f := range wrong {
		if clock.Right(f) {
			t.Fatal(f)
		}
	}
}

func TestFrame(t *testing.T) { // P4.1
	for _, f := range lengths {
		frame, offset := 0, 0
		for tick := range 100 {
			if k, o := clock.Frame(tick, f); k != frame || o != offset {
				t.Fatal(tick, f, k, o)
			}
			if offset++; offset == f {
				frame, offset = frame+1, 0
			}
		}
	}
	cases := []struct{ tick, f, frame, offset int }{
		{37, 10, 3, 7}, // the document's example
		{-1, 10, 0, 0},
		{math.MinInt, 10, 0, 0},
		{0, api.MaxFrame, 0, 0},
		{api.MaxFrame - 1, api.MaxFrame, 0, api.MaxFrame - 1},
		{api.MaxFrame, api.MaxFrame, 1, 0},
		{api.MaxNum, 1, api.MaxNum, 0},
		{api.MaxNum + 1, 2, 1 << 30, 0},
		{math.MaxInt, 1, math.MaxInt, 0},
		{math.MaxInt, api.MaxFrame, math.MaxInt / api.MaxFrame, api.MaxFrame - 1},
	}
	for _, c := range cases {
		if k, o := clock.Frame(c.tick, c.f); k != c.frame || o != c.offset {
			t.Fatal(c, k, o)
		}
	}
	for _, f := range wrong {
		for _, tick := range []int{math.MinInt, -1, 0, 1, 37, math.MaxInt} {
			if k, o := clock.Frame(tick, f); k != 0 || o != 0 {
				t.Fatal(tick, f, k, o)
			}
		}
	}
}

func TestAt(t *testing.T) { // P4.1
	for _, f := range lengths {
		tick := 0
		for frame := range 9 {
			for offset := range f {
				if got := clock.At(frame, offset, f); got != tick {
					t.Fatal(frame, offset, f, got)
				}
				tick++
			}
		}
	}
	cases := []struct{ frame, offset, f, want int }{
		{3, 7, 10, 37},
		{3, 0, 10, 30},
		{3, 9, 10, 39},
		{3, 10, 10, -1},
		{3, 11, 10, -1},
		{3, -1, 10, -1},
		{3, math.MinInt, 10, -1},
		{3, math.MaxInt, 10, -1},
		{-1, 0, 10, -1},
		{math.MinInt, 0, 10, -1},
		{api.MaxNum, 0, 1, api.MaxNum},
		{api.MaxNum, api.MaxFrame - 1, api.MaxFrame, api.MaxNum*api.MaxFrame + api.MaxFrame - 1},
		{api.MaxNum + 1, 0, 1, -1},
		{math.MaxInt, 0, api.MaxFrame, -1},
	}
	for _, c := range cases {
		if got := clock.At(c.frame, c.offset, c.f); got != c.want {
			t.Fatal(c, got)
		}
	}
	for _, f := range wrong {
		for _, offset := range []int{-1, 0, 1, math.MaxInt} {
			if got := clock.At(1, offset, f); got != -1 {
				t.Fatal(offset, f, got)
			}
		}
	}
}

// nextOf goes from tick to tick.
func nextOf(tick, offset, f int) int {
	tick = max(tick, 0)
	for tick%f != offset {
		tick++
	}
	return tick
}

func TestNext(t *testing.T) { // P4.2
	for _, f := range lengths {
		for tick := -5; tick < 40; tick++ {
			for offset := -2; offset <= f+2; offset++ {
				want := -1
				if 0 <= offset && offset < f {
					want = nextOf(tick, offset, f)
				}
				if got := clock.Next(tick, offset, f); got != want {
					t.Fatal(tick, offset, f, got, want)
				}
			}
		}
	}
	cases := []struct{ tick, offset, f, want int }{
		{37, 5, 10, 45}, // the document's example
		{37, 7, 10, 37},
		{38, 7, 10, 47},
		{math.MinInt, 7, 10, 7},
		{37, math.MinInt, 10, -1},
		{37, math.MaxInt, 10, -1},
		{api.MaxNum, 0, 1, api.MaxNum},
		{api.MaxNum, api.MaxFrame - 1, api.MaxFrame, api.MaxNum},
		{api.MaxNum, 0, api.MaxFrame, api.MaxNum + 1}, // the answer may lie behind what may be asked for
		{api.MaxNum, api.MaxFrame - 2, api.MaxFrame, api.MaxNum + api.MaxFrame - 1},
		{api.MaxNum + 1, 0, api.MaxFrame, -1},
		{math.MaxInt, 0, 1, -1},
	}
	for _, c := range cases {
		if got := clock.Next(c.tick, c.offset, c.f); got != c.want {
			t.Fatal(c, got)
		}
	}
	for _, f := range wrong {
		for _, offset := range []int{-1, 0, 1, math.MaxInt} {
			if got := clock.Next(0, offset, f); got != -1 {
				t.Fatal(offset, f, got)
			}
		}
	}
}

func TestCount(t *testing.T) { // P4.2
	for _, f := range lengths {
		for from := -2; from <= 17; from++ {
			for to := -2; to <= 17; to++ {
				for _, offsets := range spans() {
					want := 0
					for tick := max(from, 0); tick < to && from >= 0; tick++ {
						if due(tick, f, offsets) {
							want++
						}
					}
					if got := clock.Count(sp(from, to), offsets, f); got != want {
						t.Fatal(from, to, offsets, f, got, want)
					}
				}
			}
		}
	}
	half := (api.MaxNum + 1) / 2
	cases := []struct {
		s, offsets api.Span
		f, want    int
	}{
		{sp(0, 30), sp(4, 6), 10, 6},
		{sp(5, 15), sp(4, 6), 10, 2},
		{sp(0, 30), sp(10, 12), 10, 0},
		{sp(0, 30), sp(9, math.MaxInt), 10, 3},
		{sp(0, api.MaxNum), sp(0, math.MaxInt), 1, api.MaxNum},
		{sp(0, api.MaxNum), sp(0, math.MaxInt), api.MaxFrame, api.MaxNum},
		{sp(0, api.MaxNum), sp(0, 1), 2, half},
		{sp(0, api.MaxNum), sp(1, 2), 2, half - 1},
		{sp(api.MaxNum-1, api.MaxNum), sp(0, 1), 1, 1},
		{sp(0, api.MaxNum+1), sp(0, 1), 1, 0},
		{sp(api.MaxNum, api.MaxNum+1), sp(0, 1), 1, 0},
		{sp(0, math.MaxInt), sp(0, 1), 1, 0},
		{sp(-1, 30), sp(0, 1), 1, 0},
		{sp(math.MinInt, 30), sp(0, 1), 1, 0},
	}
	for _, c := range cases {
		if got := clock.Count(c.s, c.offsets, c.f); got != c.want {
			t.Fatal(c, got)
		}
	}
	for _, f := range wrong {
		if got := clock.Count(sp(0, 30), sp(0, 5), f); got != 0 {
			t.Fatal(f, got)
		}
	}
}

// nthOf goes from tick to tick; it gives up when a whole frame had none.
func nthOf(tick, n, f int, offsets ...api.Span) int {
	for none := 0; none < f; tick++ {
		if !due(tick, f, offsets...) {
			none++
			continue
		}
		none = 0
		if n--; n == 0 {
			return tick
		}
	}
	return -1
}

func TestNth(t *testing.T) { // P4.3
	check := func(tick, n, f int, offsets ...api.Span) {
		want := -1
		if tick >= 0 && n >= 1 {
			want = nthOf(tick, n, f, offsets...)
		}
		if got := clock.Nth(tick, n, f, offsets...); got != want {
			t.Fatal(tick, n, f, offsets, got, want)
		}
	}
	for _, f := range lengths {
		for tick := -2; tick < 15; tick++ {
			for _, n := range []int{-1, 0, 1, 2, 3, 8, 25} {
				check(tick, n, f)
				for i, a := range spans() {
					check(tick, n, f, a)
					for _, b := range spans()[i%5:] {
						check(tick, n, f, a, b)
					}
				}
			}
		}
	}
}

func TestNthOfManySpans(t *testing.T) { // P4.3: alike, not in order, and such that are none
	const f = 50
	lists := [][]api.Span{
		{sp(40, 44), sp(3, 5), sp(20, 21), sp(3, 5)},
		{sp(10, 30), sp(20, 40), sp(0, 11)},
		{sp(48, 99), sp(-1, 50), sp(7, 7), sp(9, 8), sp(0, 1)},
		{sp(50, 60), sp(49, 50)},
		{sp(0, 50), sp(0, 50), sp(0, 1)},
		{sp(5, 5), sp(50, 51), sp(-3, 9)}, // none
	}
	for _, l := range lists {
		for tick := range 2*f + 1 {
			for n := 1; n <= 3*f; n++ {
				if got, want := clock.Nth(tick, n, f, l...), nthOf(tick, n, f, l...); got != want {
					t.Fatal(tick, n, l, got, want)
				}
			}
		}
	}
}

func TestNthEdges(t *testing.T) { // P4.3
	last := sp(api.MaxFrame-1, api.MaxFrame)
	cases := []struct {
		tick, n, f int
		offsets    []api.Span
		want       int
	}{
		{0, 1, 10, nil, -1},
		{0, 1, 10, []api.Span{}, -1},
		{0, 1, 10, []api.Span{sp(10, 11)}, -1},
		{0, 1, 10, []api.Span{sp(9, 11)}, 9},
		{0, 65536, 10, []api.Span{sp(9, 11)}, 655359},
		{0, 65537, 10, []api.Span{sp(9, 11)}, -1},
		{0, 65536, 1, []api.Span{sp(0, 1)}, 65535},
		{0, 0, 1, []api.Span{sp(0, 1)}, -1},
		{0, math.MinInt, 1, []api.Span{sp(0, 1)}, -1},
		{0, math.MaxInt, 1, []api.Span{sp(0, 1)}, -1},
		{-1, 1, 1, []api.Span{sp(0, 1)}, -1},
		{math.MinInt, 1, 1, []api.Span{sp(0, 1)}, -1},
		{api.MaxNum, 1, 1, []api.Span{sp(0, 1)}, api.MaxNum},
		{api.MaxNum, 2, 1, []api.Span{sp(0, 1)}, api.MaxNum + 1},
		{api.MaxNum, 65536, 1, []api.Span{sp(0, 1)}, api.MaxNum + 65535},
		{api.MaxNum, 1, api.MaxFrame, []api.Span{last}, api.MaxNum},
		{api.MaxNum, 65536, api.MaxFrame, []api.Span{last}, api.MaxNum + 65535*api.MaxFrame},
		{api.MaxNum, 65536, api.MaxFrame, []api.Span{sp(0, 1)}, api.MaxNum + 1 + 65535*api.MaxFrame},
		{api.MaxNum + 1, 1, 1, []api.Span{sp(0, 1)}, -1},
		{math.MaxInt, 1, 1, []api.Span{sp(0, 1)}, -1},
	}
	for _, c := range cases {
		if got := clock.Nth(c.tick, c.n, c.f, c.offsets...); got != c.want {
			t.Fatal(c, got)
		}
	}
	for _, f := range wrong {
		if got := clock.Nth(0, 1, f, sp(0, 1), sp(0, math.MaxInt)); got != -1 {
			t.Fatal(f, got)
		}
	}
}

func TestAtOfFrame(t *testing.T) { // P4.4
	for _, f := range []int{1, 2, 3, 10, 999, api.MaxFrame} {
		for _, from := range []int{0, f, 1000 * f, api.MaxNum - 3000, (api.MaxNum+1)*f - 3000} {
			for tick := max(from, 0); tick < from+3000; tick++ {
				frame, offset := clock.Frame(tick, f)
				if got := clock.At(frame, offset, f); got != tick {
					t.Fatal(tick, f, got)
				}
			}
		}
	}
}

func TestOneInEachRow(t *testing.T) { // P4.4
	for _, f := range lengths {
		for from := range 30 {
			for offset := range f {
				if n := clock.Count(sp(from, from+f), sp(offset, offset+1), f); n != 1 {
					t.Fatal(from, offset, f, n)
				}
				if next := clock.Next(from, offset, f); next < from || next >= from+f {
					t.Fatal(from, offset, f, next)
				}
			}
		}
	}
	for offset := range api.MaxFrame {
		if n := clock.Count(sp(api.MaxNum-api.MaxFrame, api.MaxNum), sp(offset, offset+1), api.MaxFrame); n != 1 {
			t.Fatal(offset, n)
		}
	}
}

func TestNthOfOneIsNext(t *testing.T) { // P4.5
	for _, f := range []int{1, 2, 7, 100, api.MaxFrame} {
		for _, tick := range []int{0, 1, 99, 12345, api.MaxNum - 1, api.MaxNum} {
			for offset := range f {
				nth, next := clock.Nth(tick, 1, f, sp(offset, offset+1)), clock.Next(tick, offset, f)
				if nth != next || next%f != offset {
					t.Fatal(tick, offset, f, nth, next)
				}
			}
		}
	}
}

func TestExtremes(t *testing.T) { // P1, P5: numbers of any size
	numbers := []int{math.MinInt, math.MinInt + 1, -1, 0, 1, api.MaxFrame, 65536, api.MaxNum, api.MaxNum + 1, math.MaxInt - 1, math.MaxInt}
	for _, a := range numbers {
		for _, b := range numbers {
			for _, f := range numbers {
				frame, offset := clock.Frame(a, f)
				if frame < 0 || offset < 0 || clock.At(a, b, f) < -1 || clock.Next(a, b, f) < -1 {
					t.Fatal("the number has gone round", a, b, f)
				}
				for _, c := range numbers {
					s := sp(b, c)
					if clock.Count(s, sp(a, b), f) < 0 || clock.Count(sp(a, b), s, f) < 0 || clock.Nth(a, b, f, s, sp(c, a)) < -1 {
						t.Fatal("the number has gone round", a, b, c, f)
					}
				}
			}
		}
	}
}

func TestArgumentsStay(t *testing.T) { // P3
	room := []api.Span{sp(5, 7), sp(9, 2), sp(1, 3), sp(2, 6), sp(99, 98)}
	was := slices.Clone(room)
	for range 2 {
		if got := clock.Nth(0, 7, 10, room[:4]...); got != 11 || !slices.Equal(room, was) {
			t.Fatal("the argument has changed", got, room)
		}
	}
}
