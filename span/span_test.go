package span_test

import (
	"math"
	"slices"
	"testing"

	"campanile/api"
	"campanile/span"
)

// The calls have just these signatures.
var (
	_ func(api.Span) bool                       = span.Is
	_ func(api.Span, int) bool                  = span.In
	_ func(api.Span, int) bool                  = span.Holds
	_ func(api.Span, api.Span) (api.Span, bool) = span.Meet
	_ func(...api.Span) (int, int)              = span.First
	_ func(...api.Span) bool                    = span.Apart
	_ func(...api.Span) []api.Span              = span.Sorted
	_ func(...api.Span) []api.Span              = span.Merge
	_ func(int, ...api.Span) []api.Span         = span.Gaps
	_ func(...api.Span) int                     = span.Total
)

// top is the last place that the small spans of these tests may end at.
const top = 4

func sp(from, to int) api.Span { return api.Span{From: from, To: to} }

// small is every span, and every thing that is none, from -1 to top.
func small() []api.Span {
	var out []api.Span
	for from := -1; from <= top; from++ {
		for to := -1; to <= top; to++ {
			out = append(out, sp(from, to))
		}
	}
	return out
}

// eachList hands on every list of up to three small spans.
func eachList(f func(l []api.Span)) {
	f(nil)
	f([]api.Span{})
	for _, a := range small() {
		f([]api.Span{a})
		for _, b := range small() {
			f([]api.Span{a, b})
			for _, c := range small() {
				f([]api.Span{a, b, c})
			}
		}
	}
}

// isOne, has, covered and meets say by the document's words what is asked for.
func isOne(s api.Span) bool { return 0 <= s.From && s.From < s.To }

func has(s api.Span, at int) bool { return isOne(s) && s.From <= at && at < s.To }

func covered(l []api.Span, at int) bool {
	for _, s := range l {
		if has(s, at) {
			return true
		}
	}
	return false
}

func meets(a, b api.Span) bool {
	for at := -2; at <= top+1; at++ {
		if has(a, at) && has(b, at) {
			return true
		}
	}
	return false
}

// tidy: are these spans, rising, none meeting or touching another?
func tidy(l []api.Span) bool {
	for i, s := range l {
		if !isOne(s) || i > 0 && l[i-1].To >= s.From {
			return false
		}
	}
	return true
}

func TestIs(t *testing.T) { // P1.1
	for _, s := range small() {
		if span.Is(s) != isOne(s) {
			t.Fatal(s, span.Is(s))
		}
	}
	if !span.Is(sp(0, math.MaxInt)) || !span.Is(sp(math.MaxInt-1, math.MaxInt)) {
		t.Fatal("great ones are spans")
	}
	if span.Is(sp(math.MaxInt, math.MaxInt)) || span.Is(sp(math.MinInt, math.MaxInt)) || span.Is(sp(0, math.MinInt)) || span.Is(sp(math.MaxInt, math.MinInt)) {
		t.Fatal("these are none")
	}
}

func TestIn(t *testing.T) { // P1.1
	for _, s := range small() {
		for n := -2; n <= top+2; n++ {
			if want := isOne(s) && s.To <= n; span.In(s, n) != want {
				t.Fatal(s, n, !want)
			}
		}
	}
	if !span.In(sp(0, math.MaxInt), math.MaxInt) || span.In(sp(0, math.MaxInt), math.MaxInt-1) || span.In(sp(0, 1), math.MinInt) {
		t.Fatal("great ones")
	}
}

func TestHolds(t *testing.T) { // P1.1
	for _, s := range small() {
		for at := -2; at <= top+2; at++ {
			if span.Holds(s, at) != has(s, at) {
				t.Fatal(s, at, !has(s, at))
			}
		}
	}
	if !span.Holds(sp(0, math.MaxInt), math.MaxInt-1) || span.Holds(sp(0, math.MaxInt), math.MaxInt) || span.Holds(sp(math.MinInt, 5), -1) || span.Holds(sp(0, 5), math.MinInt) {
		t.Fatal("great ones")
	}
}

func TestMeet(t *testing.T) { // P1.1, and P2: the zero value beside false
	for _, a := range small() {
		for _, b := range small() {
			both, ok := span.Meet(a, b)
			if ok != meets(a, b) {
				t.Fatal(a, b, ok)
			}
			if !ok && both != (api.Span{}) {
				t.Fatal(a, b, both)
			}
			for at := -2; at <= top+2; at++ {
				if has(both, at) != (has(a, at) && has(b, at)) {
					t.Fatal(a, b, both)
				}
			}
		}
	}
	if both, ok := span.Meet(sp(0, math.MaxInt), sp(math.MaxInt-2, math.MaxInt)); !ok || both != sp(math.MaxInt-2, math.MaxInt) {
		t.Fatal(both, ok)
	}
	if both, ok := span.Meet(sp(math.MinInt, math.MaxInt), sp(0, 9)); ok || both != (api.Span{}) {
		t.Fatal("one is none", both)
	}
}

// firstOf goes through the pairs in the order of the document.
func firstOf(l []api.Span) (int, int) {
	for k := range l {
		for i := range k {
			if meets(l[i], l[k]) {
				return i, k
			}
		}
	}
	return -1, -1
}

func TestFirst(t *testing.T) { // P1.2
	eachList(func(l []api.Span) {
		i, k := span.First(l...)
		if wi, wk := firstOf(l); i != wi || k != wk {
			t.Fatal(l, i, k, wi, wk)
		}
	})
	cases := []struct {
		l    []api.Span
		i, k int
	}{
		{nil, -1, -1},
		{[]api.Span{sp(0, 3)}, -1, -1},
		{[]api.Span{sp(0, 3), sp(3, 6), sp(6, 9)}, -1, -1},                     // they touch
		{[]api.Span{sp(0, 3), sp(0, 3)}, 0, 1},                                 // they are alike
		{[]api.Span{sp(2, 2), sp(0, 9), sp(4, 4), sp(5, 3)}, -1, -1},           // but one are none
		{[]api.Span{sp(5, 6), sp(0, 2), sp(8, 9), sp(1, 9)}, 0, 3},             // the least i
		{[]api.Span{sp(5, 6), sp(0, 2), sp(1, 3), sp(5, 7)}, 1, 2},             // the least k
		{[]api.Span{sp(0, math.MaxInt), sp(math.MaxInt-1, math.MaxInt)}, 0, 1}, // the last place
	}
	for _, c := range cases {
		if i, k := span.First(c.l...); i != c.i || k != c.k {
			t.Fatal(c, i, k)
		}
	}
}

func TestApart(t *testing.T) { // P1.2
	eachList(func(l []api.Span) {
		_, k := firstOf(l)
		want := k < 0
		for _, s := range l {
			want = want && isOne(s)
		}
		if span.Apart(l...) != want {
			t.Fatal(l, !want)
		}
	})
	if !span.Apart() || !span.Apart(sp(6, 9), sp(0, 3), sp(3, 6)) || span.Apart(sp(6, 9), sp(0, 3), sp(2, 6)) || span.Apart(sp(4, 4)) {
		t.Fatal("apart")
	}
}

func TestSorted(t *testing.T) { // P1.2
	eachList(func(l []api.Span) {
		got := span.Sorted(l...)
		if len(got) != len(l) {
			t.Fatal(l, got)
		}
		for i, s := range got {
			if i > 0 && (got[i-1].From > s.From || got[i-1].From == s.From && got[i-1].To > s.To) {
				t.Fatal(l, got)
			}
			if count(got, s) != count(l, s) {
				t.Fatal(l, got)
			}
		}
	})
	got := span.Sorted(sp(math.MaxInt, 0), sp(3, 9), sp(0, math.MaxInt), sp(3, math.MinInt), sp(math.MinInt, 7), sp(3, 3))
	want := []api.Span{sp(math.MinInt, 7), sp(0, math.MaxInt), sp(3, math.MinInt), sp(3, 3), sp(3, 9), sp(math.MaxInt, 0)}
	if !slices.Equal(got, want) {
		t.Fatal(got)
	}
}

func count(l []api.Span, s api.Span) int {
	n := 0
	for _, x := range l {
		if x == s {
			n++
		}
	}
	return n
}

func TestMerge(t *testing.T) { // P1.3
	eachList(func(l []api.Span) {
		got := span.Merge(l...)
		if !tidy(got) {
			t.Fatal(l, got)
		}
		for at := -2; at <= top+2; at++ {
			if covered(got, at) != covered(l, at) {
				t.Fatal(l, got)
			}
		}
	})
	cases := []struct{ l, want []api.Span }{
		{nil, nil},
		{[]api.Span{sp(5, 7), sp(1, 3), sp(3, 4)}, []api.Span{sp(1, 4), sp(5, 7)}}, // the document's example
		{[]api.Span{sp(0, 9), sp(2, 3), sp(8, 10)}, []api.Span{sp(0, 10)}},
		{[]api.Span{sp(4, 4), sp(-1, 9), sp(5, 2)}, nil},
		{[]api.Span{sp(1, 2), sp(1, 2)}, []api.Span{sp(1, 2)}},
		{[]api.Span{sp(math.MaxInt-1, math.MaxInt), sp(0, math.MaxInt-2)}, []api.Span{sp(0, math.MaxInt-2), sp(math.MaxInt-1, math.MaxInt)}},
	}
	for _, c := range cases {
		if got := span.Merge(c.l...); !slices.Equal(got, c.want) {
			t.Fatal(c, got)
		}
	}
}

func TestGaps(t *testing.T) { // P1.3
	eachList(func(l []api.Span) {
		for _, n := range []int{-1, 0, 1, 3, top, top + 2} {
			got := span.Gaps(n, l...)
			if !tidy(got) {
				t.Fatal(n, l, got)
			}
			for at := -2; at <= top+4; at++ {
				if want := 0 <= at && at < n && !covered(l, at); covered(got, at) != want {
					t.Fatal(n, l, got)
				}
			}
		}
	})
	cases := []struct {
		n       int
		l, want []api.Span
	}{
		{8, []api.Span{sp(1, 4), sp(5, 7)}, []api.Span{sp(0, 1), sp(4, 5), sp(7, 8)}}, // the document's example
		{8, nil, []api.Span{sp(0, 8)}},
		{0, []api.Span{sp(1, 4)}, nil},
		{math.MinInt, []api.Span{sp(1, 4)}, nil},
		{math.MaxInt, []api.Span{sp(1, 4)}, []api.Span{sp(0, 1), sp(4, math.MaxInt)}},
		{math.MaxInt, []api.Span{sp(7, math.MaxInt)}, []api.Span{sp(0, 7)}},
		{3, []api.Span{sp(7, math.MaxInt)}, []api.Span{sp(0, 3)}},
		{5, []api.Span{sp(-3, 9), sp(2, 2)}, []api.Span{sp(0, 5)}},
	}
	for _, c := range cases {
		if got := span.Gaps(c.n, c.l...); !slices.Equal(got, c.want) {
			t.Fatal(c, got)
		}
	}
}

func TestTotal(t *testing.T) { // P1.3
	eachList(func(l []api.Span) {
		want := 0
		for at := range top + 1 {
			if covered(l, at) {
				want++
			}
		}
		if got := span.Total(l...); got != want {
			t.Fatal(l, got, want)
		}
	})
	whole := sp(0, math.MaxInt)
	if got := span.Total(whole, whole, sp(5, math.MaxInt), sp(math.MinInt, math.MaxInt)); got != math.MaxInt {
		t.Fatal("P5: the number has gone round", got)
	}
}

func TestMergeOfMerge(t *testing.T) { // P1.4
	eachList(func(l []api.Span) {
		once := span.Merge(l...)
		if twice := span.Merge(once...); !slices.Equal(once, twice) {
			t.Fatal(l, once, twice)
		}
		other := slices.Clone(l)
		for range l {
			other = append(other[1:], other[0])
			if !slices.Equal(span.Merge(other...), once) {
				t.Fatal(other, once)
			}
		}
		slices.Reverse(other)
		if !slices.Equal(span.Merge(other...), once) {
			t.Fatal(other, once)
		}
	})
}

func TestGapsAndMerge(t *testing.T) { // P1.4
	eachList(func(l []api.Span) {
		for n := -1; n <= top+1; n++ {
			gaps, merged := span.Gaps(n, l...), span.Merge(l...)
			for _, g := range gaps {
				for _, m := range merged {
					if _, ok := span.Meet(g, m); ok {
						t.Fatal(n, l, g, m)
					}
				}
			}
			for at := range max(n, 0) {
				if !covered(gaps, at) && !covered(merged, at) {
					t.Fatal(n, l, at)
				}
			}
		}
	})
}

func TestTotalOfApart(t *testing.T) { // P1.5
	seen := 0
	eachList(func(l []api.Span) {
		if !span.Apart(l...) {
			return
		}
		seen++
		sum := 0
		for _, s := range l {
			sum += span.Total(s)
		}
		if span.Total(l...) != sum {
			t.Fatal(l, sum)
		}
	})
	if seen < 2 {
		t.Fatal("none was apart")
	}
}

func TestManySpans(t *testing.T) { // P1.2, P1.3: long lists
	const n = 20000
	var touching, twice []api.Span
	for i := range n {
		at := i * 7919 % n * 2
		touching = append(touching, sp(at, at+2))
		twice = append(twice, sp(at, at+1))
	}
	if i, k := span.First(touching...); i != -1 || k != -1 || !span.Apart(touching...) {
		t.Fatal("they touch", i, k)
	}
	if l := span.Merge(touching...); len(l) != 1 || l[0] != sp(0, 2*n) {
		t.Fatal("one span", len(l))
	}
	if len(span.Gaps(2*n, twice...)) != n || span.Total(twice...) != n {
		t.Fatal("gaps")
	}
	twice = append(twice, twice[n/2], twice[3])
	if i, k := span.First(twice...); i != n/2 || k != n || span.Apart(twice...) {
		t.Fatal("alike", i, k)
	}
}

func TestExtremes(t *testing.T) { // P1, P5: numbers of any size
	numbers := []int{math.MinInt, math.MinInt + 1, -1, 0, 1, 65536, math.MaxInt - 1, math.MaxInt}
	var l []api.Span
	for _, from := range numbers {
		for _, to := range numbers {
			l = append(l, sp(from, to))
		}
	}
	for i, a := range l {
		if span.Is(a) != isOne(a) || span.In(a, a.To) != isOne(a) || span.Holds(a, a.From) != isOne(a) || span.Holds(a, a.To) {
			t.Fatal(a)
		}
		if got := span.Merge(l[i:]...); !tidy(got) {
			t.Fatal(i, got)
		}
		for _, n := range numbers {
			if got := span.Gaps(n, a); !tidy(got) || len(got) > 2 || len(got) > 0 && got[len(got)-1].To > n {
				t.Fatal(a, n, got)
			}
		}
		if span.Total(a) < 0 || span.Total(l[i:]...) < 0 {
			t.Fatal("the number has gone round", a)
		}
		span.First(l[i:]...)
		span.Apart(l[i:]...)
	}
}

func TestArgumentsStay(t *testing.T) { // P3
	room := []api.Span{sp(5, 7), sp(2, 2), sp(1, 3), sp(3, 4), sp(99, 98), sp(97, 96)}
	was := slices.Clone(room)
	l := room[:4]
	span.First(l...)
	span.Apart(l...)
	answers := [][]api.Span{span.Sorted(l...), span.Merge(l...), span.Gaps(8, l...), span.Sorted(l...), span.Merge(l...), span.Gaps(8, l...)}
	if !slices.Equal(room, was) {
		t.Fatal("the argument has changed", room)
	}
	for _, a := range answers {
		a = a[:cap(a)]
		for i := range a {
			a[i] = sp(-7, -7)
		}
	}
	if !slices.Equal(room, was) {
		t.Fatal("an answer lies in the argument", room)
	}
	sorted, merged, gaps := span.Sorted(l...), span.Merge(l...), span.Gaps(8, l...)
	for i := range room {
		room[i] = sp(-7, -7)
	}
	if sorted[0] != sp(1, 3) || merged[0] != sp(1, 4) || gaps[0] != sp(0, 1) {
		t.Fatal("the argument was kept", sorted, merged, gaps)
	}
}

func TestAnswersAreTheSame(t *testing.T) { // P6
	l := []api.Span{sp(5, 7), sp(1, 3), sp(3, 4), sp(2, 6)}
	first := span.Gaps(8, l...)
	for range 3 {
		span.Merge(sp(0, 99))
		span.Gaps(4, sp(0, 1))
		i, k := span.First(l...)
		if i != 0 || k != 3 || span.Total(l...) != 6 || !slices.Equal(span.Gaps(8, l...), first) {
			t.Fatal("another answer")
		}
	}
}
