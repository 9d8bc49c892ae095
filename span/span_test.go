package span_test

import (
	"fmt"
	"math"
	"slices"
	"testing"

	"erratum/api"
	"erratum/span"
)

// sp makes a span's writing short, right or not.
func sp(from, to int) api.Span { return api.Span{From: from, To: to} }

// all is the longest span that may be.
var all = sp(api.MinTime, api.MaxTime)

// wrong are spans that are not right, each for a reason of its own.
var wrong = []api.Span{
	{},
	sp(5, 5),
	sp(5, 4),
	sp(api.MinTime, api.MinTime),
	sp(api.MaxTime, api.MaxTime),
	sp(api.MaxTime, api.MinTime),
	sp(api.MinTime-1, 0),
	sp(0, api.MaxTime+1),
	sp(api.MinTime-1, api.MaxTime+1),
	sp(api.MinTime-2, api.MinTime-1),
	sp(api.MinTime-1, api.MinTime),
	sp(api.MaxTime, api.MaxTime+1),
	sp(api.MaxTime+1, api.MaxTime+2),
	sp(0, api.Forever),
	sp(math.MinInt, math.MaxInt),
	sp(math.MaxInt, math.MinInt),
	sp(math.MinInt, math.MinInt),
	sp(math.MaxInt, math.MaxInt),
	sp(math.MinInt, 0),
	sp(0, math.MinInt),
	sp(0, math.MaxInt),
	sp(math.MaxInt, 0),
}

// right are spans that are right, those at both ends of time among them.
var right = []api.Span{
	sp(0, 1),
	sp(0, 10),
	sp(-10, 0),
	sp(-7, 7),
	all,
	sp(api.MinTime, api.MinTime+1),
	sp(api.MaxTime-1, api.MaxTime),
	sp(api.MinTime, 0),
	sp(0, api.MaxTime),
	sp(api.MinTime+1, api.MaxTime-1),
}

func TestRight(t *testing.T) {
	for _, a := range right {
		if !span.Right(a) {
			t.Errorf("Right(%v) = false", a)
		}
	}
	for _, a := range wrong {
		if span.Right(a) {
			t.Errorf("Right(%v) = true", a)
		}
	}
}

func TestMake(t *testing.T) {
	for _, a := range right {
		if got, e := span.Make(a.From, a.To); got != a || e != api.OK {
			t.Errorf("Make(%v) = %v, %v", a, got, e)
		}
	}
	for _, a := range wrong {
		if got, e := span.Make(a.From, a.To); got != (api.Span{}) || e != api.ErrSpan {
			t.Errorf("Make(%v) = %v, %v", a, got, e)
		}
	}
}

func TestHas(t *testing.T) {
	for _, c := range []struct {
		a    api.Span
		t    int
		want bool
	}{
		{sp(0, 10), -1, false},
		{sp(0, 10), 0, true},
		{sp(0, 10), 5, true},
		{sp(0, 10), 9, true},
		{sp(0, 10), 10, false},
		{sp(0, 10), 11, false},
		{sp(0, 10), math.MinInt, false},
		{sp(0, 10), math.MaxInt, false},
		{all, api.MinTime, true},
		{all, api.MinTime - 1, false},
		{all, api.MaxTime - 1, true},
		{all, api.MaxTime, false},
		// Has is asked of any span: these are not right.
		{sp(5, 5), 5, false},
		{sp(6, 4), 5, false},
		{sp(6, 4), 4, false},
		{sp(6, 4), 6, false},
		{sp(api.MinTime-2, 0), api.MinTime - 2, true},
		{sp(api.MinTime-2, 0), -1, true},
		{sp(0, api.MaxTime+2), api.MaxTime + 1, true},
		{sp(0, api.MaxTime+2), api.MaxTime + 2, false},
		{sp(math.MinInt, math.MaxInt), math.MinInt, true},
		{sp(math.MinInt, math.MaxInt), 0, true},
		{sp(math.MinInt, math.MaxInt), math.MaxInt - 1, true},
		{sp(math.MinInt, math.MaxInt), math.MaxInt, false},
		{sp(math.MaxInt, math.MinInt), 0, false},
		{sp(math.MaxInt, math.MinInt), math.MaxInt, false},
		{sp(math.MaxInt, math.MinInt), math.MinInt, false},
	} {
		if got := span.Has(c.a, c.t); got != c.want {
			t.Errorf("Has(%v, %d) = %v", c.a, c.t, got)
		}
	}
}

func TestLong(t *testing.T) {
	for _, c := range []struct {
		a    api.Span
		want int
	}{
		{sp(0, 1), 1},
		{sp(0, 10), 10},
		{sp(-7, 7), 14},
		{sp(api.MinTime, api.MinTime+1), 1},
		{sp(api.MaxTime-1, api.MaxTime), 1},
		{all, 1 << 41},
	} {
		if got := span.Long(c.a); got != c.want {
			t.Errorf("Long(%v) = %d, not %d", c.a, got, c.want)
		}
	}
	for _, a := range wrong {
		if got := span.Long(a); got != 0 {
			t.Errorf("Long(%v) = %d", a, got)
		}
	}
}

// pairs are two right spans each, what they have in common (the zero span: nothing), and what the first has alone.
var pairs = []struct {
	a, b, meet api.Span
	minus      []api.Span
}{
	{sp(0, 10), sp(3, 5), sp(3, 5), []api.Span{sp(0, 3), sp(5, 10)}}, // b within
	{sp(3, 5), sp(0, 10), sp(3, 5), nil},                             // a within
	{sp(0, 10), sp(0, 10), sp(0, 10), nil},                           // alike
	{sp(0, 10), sp(0, 4), sp(0, 4), []api.Span{sp(4, 10)}},           // b begins a
	{sp(0, 4), sp(0, 10), sp(0, 4), nil},                             // a begins b
	{sp(0, 10), sp(6, 10), sp(6, 10), []api.Span{sp(0, 6)}},          // b ends a
	{sp(6, 10), sp(0, 10), sp(6, 10), nil},                           // a ends b
	{sp(0, 6), sp(4, 10), sp(4, 6), []api.Span{sp(0, 4)}},            // b laps over the end
	{sp(4, 10), sp(0, 6), sp(4, 6), []api.Span{sp(6, 10)}},           // b laps over the beginning
	{sp(0, 5), sp(5, 10), api.Span{}, []api.Span{sp(0, 5)}},          // b touches the end
	{sp(5, 10), sp(0, 5), api.Span{}, []api.Span{sp(5, 10)}},         // b touches the beginning
	{sp(0, 3), sp(7, 10), api.Span{}, []api.Span{sp(0, 3)}},          // b is behind
	{sp(7, 10), sp(0, 3), api.Span{}, []api.Span{sp(7, 10)}},         // b is ahead
	{sp(0, 6), sp(5, 9), sp(5, 6), []api.Span{sp(0, 5)}},             // a single time in common
	{sp(-3, -1), sp(1, 3), api.Span{}, []api.Span{sp(-3, -1)}},       // 0 lies between
	{all, all, all, nil}, // all of time
	{all, sp(0, 1), sp(0, 1), []api.Span{sp(-1<<40, 0), sp(1, 1<<40)}},                     // all of time but one
	{sp(0, 1), all, sp(0, 1), nil},                                                         //
	{all, sp(-1<<40, 0), sp(-1<<40, 0), []api.Span{sp(0, 1<<40)}},                          // to the first time
	{all, sp(0, 1<<40), sp(0, 1<<40), []api.Span{sp(-1<<40, 0)}},                           // to the last time
	{sp(-1<<40, 1-1<<40), sp(1<<40-1, 1<<40), api.Span{}, []api.Span{sp(-1<<40, 1-1<<40)}}, // as far apart as can be
}

func TestMeet(t *testing.T) {
	for _, c := range pairs {
		ok := c.meet != api.Span{}
		if got, is := span.Meet(c.a, c.b); got != c.meet || is != ok {
			t.Errorf("Meet(%v, %v) = %v, %v", c.a, c.b, got, is)
		}
		if got, is := span.Meet(c.b, c.a); got != c.meet || is != ok {
			t.Errorf("Meet(%v, %v) = %v, %v", c.b, c.a, got, is)
		}
	}
}

func TestMeetOfWrongSpans(t *testing.T) {
	for _, b := range wrong {
		for _, a := range slices.Concat(right, wrong) {
			if got, is := span.Meet(a, b); got != (api.Span{}) || is {
				t.Errorf("Meet(%v, %v) = %v, %v", a, b, got, is)
			}
			if got, is := span.Meet(b, a); got != (api.Span{}) || is {
				t.Errorf("Meet(%v, %v) = %v, %v", b, a, got, is)
			}
		}
	}
}

func TestMinus(t *testing.T) {
	for _, c := range pairs {
		if got := span.Minus(c.a, c.b); !slices.Equal(got, c.minus) {
			t.Errorf("Minus(%v, %v) = %v, not %v", c.a, c.b, got, c.minus)
		}
	}
}

func TestMinusOfWrongSpans(t *testing.T) {
	for _, w := range wrong {
		for _, a := range right {
			if got := span.Minus(a, w); !slices.Equal(got, []api.Span{a}) {
				t.Errorf("Minus(%v, %v) = %v", a, w, got)
			}
			if got := span.Minus(w, a); len(got) != 0 {
				t.Errorf("Minus(%v, %v) = %v", w, a, got)
			}
		}
		for _, b := range wrong {
			if got := span.Minus(w, b); len(got) != 0 {
				t.Errorf("Minus(%v, %v) = %v", w, b, got)
			}
		}
	}
}

// near answers all spans whose ends lie at most so far from a time.
func near(middle, far int) []api.Span {
	var l []api.Span
	for from := middle - far; from <= middle+far; from++ {
		for to := middle - far; to <= middle+far; to++ {
			l = append(l, sp(from, to))
		}
	}
	return l
}

// middles are times around which right and wrong spans of all ways to lie are held against each other.
var middles = []int{api.MinTime, 0, api.MaxTime}

// has is told by the words of the chapter: a time of a right span.
func has(a api.Span, t int) bool {
	return a.From >= api.MinTime && a.To <= api.MaxTime && a.From < a.To && a.From <= t && t < a.To
}

// count tells in how many spans of a list a time is.
func count(l []api.Span, t int) int {
	n := 0
	for _, a := range l {
		if has(a, t) {
			n++
		}
	}
	return n
}

// TestParts holds Meet and Minus against single times: each time of a is in Meet, or in just one of Minus.
func TestParts(t *testing.T) {
	for _, middle := range middles {
		spans := near(middle, 4)
		for _, a := range spans {
			for _, b := range spans {
				if fault := partsFault(a, b, middle); fault != "" {
					t.Fatalf("a %v, b %v: %s", a, b, fault)
				}
			}
		}
	}
}

func partsFault(a, b api.Span, middle int) string {
	meet, ok := span.Meet(a, b)
	minus := span.Minus(a, b)
	if len(minus) > 2 || !rising(minus) {
		return fmt.Sprint("Minus ", minus)
	}
	if !ok && meet != (api.Span{}) {
		return fmt.Sprint("beside false, Meet is ", meet)
	}
	common := 0
	for at := middle - 6; at <= middle+6; at++ {
		both, alone := has(a, at) && has(b, at), has(a, at) && !has(b, at)
		if both {
			common++
		}
		if both != (ok && span.Has(meet, at)) {
			return fmt.Sprint("Meet ", meet, ok, " at ", at)
		}
		want := 0
		if alone {
			want = 1
		}
		if count(minus, at) != want {
			return fmt.Sprint("Minus ", minus, " at ", at)
		}
	}
	if ok != (common > 0) {
		return fmt.Sprint("Meet tells ", ok, " of ", common, " times")
	}
	long := span.Long(meet)
	for _, m := range minus {
		long += span.Long(m)
	}
	if long != span.Long(a) {
		return fmt.Sprint("the parts have ", long, " times")
	}
	return ""
}

// rising tells whether spans are right, and each begins at the end of the one ahead of it, or behind that.
func rising(l []api.Span) bool {
	for i, a := range l {
		if !span.Right(a) || i > 0 && a.From < l[i-1].To {
			return false
		}
	}
	return true
}

func TestHull(t *testing.T) {
	for _, c := range []struct {
		l    []api.Span
		want api.Span
	}{
		{[]api.Span{sp(0, 1)}, sp(0, 1)},
		{[]api.Span{sp(0, 3), sp(7, 9)}, sp(0, 9)},
		{[]api.Span{sp(7, 9), sp(0, 3)}, sp(0, 9)},
		{[]api.Span{sp(0, 3), sp(3, 9)}, sp(0, 9)},
		{[]api.Span{sp(0, 10), sp(3, 5)}, sp(0, 10)},
		{[]api.Span{sp(3, 5), sp(0, 10)}, sp(0, 10)},
		{[]api.Span{sp(2, 4), sp(2, 4), sp(2, 4)}, sp(2, 4)},
		{[]api.Span{sp(5, 6), sp(-9, -8), sp(1, 2)}, sp(-9, 6)},
		{[]api.Span{sp(-9, -8), sp(-5, -3)}, sp(-9, -3)},
		{[]api.Span{sp(4, 6), sp(8, 9)}, sp(4, 9)},
		{[]api.Span{all, sp(0, 1)}, all},
		{[]api.Span{sp(-1<<40, 1-1<<40), sp(1<<40-1, 1<<40)}, all},
	} {
		if got, ok := span.Hull(c.l...); got != c.want || !ok {
			t.Errorf("Hull(%v) = %v, %v", c.l, got, ok)
		}
	}
}

func TestHullOfNone(t *testing.T) {
	for _, l := range [][]api.Span{nil, {}, {sp(3, 3)}, {sp(3, 3), sp(math.MinInt, math.MaxInt)}, wrong} {
		if got, ok := span.Hull(l...); got != (api.Span{}) || ok {
			t.Errorf("Hull(%v) = %v, %v", l, got, ok)
		}
	}
}

// TestHullOverWrongSpans: spans that are not right count for nothing, wherever they stand.
func TestHullOverWrongSpans(t *testing.T) {
	a, b := sp(5, 7), sp(20, 30)
	for _, w := range wrong {
		for _, l := range [][]api.Span{{w, a, b}, {a, w, b}, {a, b, w}, {w, b, w, a, w}} {
			if got, ok := span.Hull(l...); got != sp(5, 30) || !ok {
				t.Errorf("Hull(%v) = %v, %v", l, got, ok)
			}
		}
	}
}

// TestHullIsLeast: the hull has the first and the last time of the spans, and none ahead of that or behind it.
func TestHullIsLeast(t *testing.T) {
	for _, middle := range middles {
		spans := near(middle, 3)
		for _, a := range spans {
			for _, b := range spans {
				l := []api.Span{a, b}
				first, last, some := 0, 0, false
				for at := middle - 5; at <= middle+5; at++ {
					if count(l, at) == 0 {
						continue
					}
					if !some {
						first, some = at, true
					}
					last = at
				}
				want := api.Span{}
				if some {
					want = sp(first, last+1)
				}
				if got, ok := span.Hull(l...); got != want || ok != some {
					t.Fatalf("Hull(%v) = %v, %v, not %v", l, got, ok, want)
				}
			}
		}
	}
}

func TestCut(t *testing.T) {
	for _, c := range []struct {
		a    api.Span
		at   []int
		want []api.Span
	}{
		{sp(0, 10), []int{5, 0, 5, 12}, []api.Span{sp(0, 5), sp(5, 10)}},
		{sp(0, 10), nil, []api.Span{sp(0, 10)}},
		{sp(0, 10), []int{}, []api.Span{sp(0, 10)}},
		{sp(0, 10), []int{5}, []api.Span{sp(0, 5), sp(5, 10)}},
		{sp(0, 10), []int{0}, []api.Span{sp(0, 10)}},
		{sp(0, 10), []int{10}, []api.Span{sp(0, 10)}},
		{sp(0, 10), []int{0, 10, 0, 10}, []api.Span{sp(0, 10)}},
		{sp(0, 10), []int{-1, 11}, []api.Span{sp(0, 10)}},
		{sp(0, 10), []int{1, 9}, []api.Span{sp(0, 1), sp(1, 9), sp(9, 10)}},
		{sp(0, 10), []int{9, 1}, []api.Span{sp(0, 1), sp(1, 9), sp(9, 10)}},
		{sp(0, 10), []int{7, 3, 7, 3, 5}, []api.Span{sp(0, 3), sp(3, 5), sp(5, 7), sp(7, 10)}},
		{sp(0, 3), []int{0, 1, 2, 3, 4}, []api.Span{sp(0, 1), sp(1, 2), sp(2, 3)}},
		{sp(4, 5), []int{3, 4, 5, 6}, []api.Span{sp(4, 5)}},
		{sp(-10, 10), []int{0}, []api.Span{sp(-10, 0), sp(0, 10)}},
		{sp(0, 10), []int{math.MinInt, math.MaxInt, api.MinTime, api.MaxTime}, []api.Span{sp(0, 10)}},
		{all, []int{api.MinTime, api.MaxTime}, []api.Span{all}},
		{all, []int{api.MinTime - 1, api.MaxTime + 1, math.MinInt, math.MaxInt}, []api.Span{all}},
		{all, []int{1<<40 - 1, 1 - 1<<40}, []api.Span{sp(-1<<40, 1-1<<40), sp(1-1<<40, 1<<40-1), sp(1<<40-1, 1<<40)}},
	} {
		if got := span.Cut(c.a, c.at...); !slices.Equal(got, c.want) {
			t.Errorf("Cut(%v, %v) = %v, not %v", c.a, c.at, got, c.want)
		}
	}
}

func TestCutOfWrongSpans(t *testing.T) {
	for _, w := range wrong {
		for _, at := range [][]int{nil, {0}, {4, 5, 6}, {api.MinTime, api.MaxTime}, {1, 2, math.MinInt, math.MaxInt}} {
			if got := span.Cut(w, at...); len(got) != 0 {
				t.Errorf("Cut(%v, %v) = %v", w, at, got)
			}
		}
	}
}

// TestCutAtAllTimes holds Cut against its words, at every choice of three times: the pieces lie one
// behind the other, and a piece begins where the span does, or at a cut within, and nowhere else.
func TestCutAtAllTimes(t *testing.T) {
	for _, middle := range middles {
		for _, a := range near(middle, 2) {
			for choice := range 7 * 7 * 7 {
				at := []int{middle - 3 + choice%7, middle - 3 + choice/7%7, middle - 3 + choice/49}
				var want []api.Span
				for from := a.From; span.Right(a) && from < a.To; {
					to := from + 1
					for to < a.To && !slices.Contains(at, to) {
						to++
					}
					want = append(want, sp(from, to))
					from = to
				}
				if got := span.Cut(a, at...); !slices.Equal(got, want) {
					t.Fatalf("Cut(%v, %v) = %v, not %v", a, at, got, want)
				}
			}
		}
	}
}

func TestCutAtManyTimes(t *testing.T) {
	const n = 1 << 14
	at := make([]int, 0, 2*n)
	for i := range n {
		at = append(at, n-i, i*7919%n)
	}
	got := span.Cut(sp(0, n), at...)
	if len(got) != n {
		t.Fatalf("%d pieces, not %d", len(got), n)
	}
	for i, a := range got {
		if a != sp(i, i+1) {
			t.Fatalf("piece %d is %v", i, a)
		}
	}
}

func TestCompare(t *testing.T) {
	// Rising, spans that are not right among them.
	l := []api.Span{
		sp(math.MinInt, math.MinInt),
		sp(math.MinInt, math.MaxInt),
		sp(api.MinTime-1, 0),
		sp(api.MinTime, api.MinTime),
		sp(api.MinTime, 0),
		sp(api.MinTime, api.MaxTime),
		sp(-2, 9),
		sp(-1, 5),
		sp(0, math.MinInt),
		sp(0, -1),
		sp(0, 0),
		sp(0, 1),
		sp(0, 2),
		sp(0, math.MaxInt),
		sp(1, -7),
		sp(1, 2),
		sp(api.MaxTime, api.MaxTime+1),
		sp(math.MaxInt, math.MinInt),
		sp(math.MaxInt, math.MaxInt),
	}
	for i, a := range l {
		for j, b := range l {
			want := 0
			if i < j {
				want = -1
			}
			if i > j {
				want = 1
			}
			if got := span.Compare(a, b); got != want {
				t.Errorf("Compare(%v, %v) = %d, not %d", a, b, got, want)
			}
		}
	}
}

// TestArgumentsStay: no call writes to its arguments, not even to what lies behind their ends.
func TestArgumentsStay(t *testing.T) {
	at := []int{9, 3, 7, 3, -5, 20, 1}
	was := slices.Clone(at)
	span.Cut(sp(0, 10), at...)
	span.Cut(sp(0, 10), at[:3]...)
	if !slices.Equal(at, was) {
		t.Errorf("Cut made %v of %v", at, was)
	}
	l := []api.Span{sp(7, 9), sp(3, 3), sp(0, 2), sp(1, 4)}
	had := slices.Clone(l)
	span.Hull(l...)
	span.Hull(l[:2]...)
	if !slices.Equal(l, had) {
		t.Errorf("Hull made %v of %v", l, had)
	}
}

// TestAnswersAreNew: what is written to an answer is seen in no other one.
func TestAnswersAreNew(t *testing.T) {
	calls := []func() []api.Span{
		func() []api.Span { return span.Minus(sp(0, 10), sp(3, 5)) },
		func() []api.Span { return span.Minus(sp(0, 10), sp(20, 30)) },
		func() []api.Span { return span.Minus(sp(0, 10), sp(5, 5)) },
		func() []api.Span { return span.Cut(sp(0, 10), 5, 3, 8) },
		func() []api.Span { return span.Cut(sp(0, 10)) },
	}
	for i, call := range calls {
		first := call()
		want := slices.Clone(first)
		for j := range first {
			first[j] = sp(-1, -1)
		}
		_ = append(first, sp(-2, -2))
		if got := call(); !slices.Equal(got, want) {
			t.Errorf("call %d: %v, not %v", i, got, want)
		}
	}
}

// TestEndsEverywhere asks every call at the ends of all that may be given to it: none panics, and what is told is right.
func TestEndsEverywhere(t *testing.T) {
	ends := []int{
		math.MinInt, math.MinInt + 1, -api.Forever, api.MinTime - 1, api.MinTime, api.MinTime + 1,
		-1, 0, 1, api.MaxTime - 1, api.MaxTime, api.MaxTime + 1, api.Forever, math.MaxInt - 1, math.MaxInt,
	}
	var spans []api.Span
	for _, from := range ends {
		for _, to := range ends {
			spans = append(spans, sp(from, to))
		}
	}
	for _, a := range spans {
		isRight := slices.Contains(ends[4:11], a.From) && slices.Contains(ends[4:11], a.To) && a.From < a.To
		if _, e := span.Make(a.From, a.To); (e == api.OK) != isRight || span.Right(a) != isRight || (span.Long(a) > 0) != isRight {
			t.Fatalf("%v: is it right?", a)
		}
		for _, at := range ends {
			if span.Has(a, at) != (a.From <= at && at < a.To) {
				t.Fatalf("Has(%v, %d)", a, at)
			}
		}
		if l := span.Cut(a, ends...); !rising(l) || (len(l) > 0) != isRight {
			t.Fatalf("Cut(%v) = %v", a, l)
		}
		for _, b := range spans {
			if fault := endsFault(a, b); fault != "" {
				t.Fatalf("a %v, b %v: %s", a, b, fault)
			}
		}
	}
	if h, ok := span.Hull(spans...); h != all || !ok {
		t.Fatalf("Hull = %v, %v", h, ok)
	}
}

func endsFault(a, b api.Span) string {
	m, ok := span.Meet(a, b)
	if ok != span.Right(m) {
		return fmt.Sprint("Meet ", m, ok)
	}
	long := span.Long(m)
	minus := span.Minus(a, b)
	for _, p := range minus {
		long += span.Long(p)
	}
	if !rising(minus) || long != span.Long(a) {
		return fmt.Sprint("Minus ", minus)
	}
	if h, ok := span.Hull(a, b); ok != span.Right(h) || ok != (span.Right(a) || span.Right(b)) {
		return fmt.Sprint("Hull ", h, ok)
	}
	if c := span.Compare(a, b); c != -span.Compare(b, a) || (c == 0) != (a == b) {
		return fmt.Sprint("Compare ", c)
	}
	return ""
}
