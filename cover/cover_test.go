package cover_test

import (
	"fmt"
	"math"
	"slices"
	"testing"

	"erratum/api"
	"erratum/cover"
)

// sp makes a span's writing short, right or not.
func sp(from, to int) api.Span { return api.Span{From: from, To: to} }

// ls makes a list's writing short.
func ls(l ...api.Span) []api.Span { return l }

// all is the longest span that may be.
var all = sp(api.MinTime, api.MaxTime)

// first and last are the spans of the least and of the greatest time alone.
var first, last = sp(api.MinTime, api.MinTime+1), sp(api.MaxTime-1, api.MaxTime)

// wrong are spans that are not right, each for a reason of its own.
var wrong = []api.Span{
	{},
	sp(5, 5),
	sp(5, 4),
	sp(9, 8),
	sp(api.MinTime, api.MinTime),
	sp(api.MaxTime, api.MaxTime),
	sp(api.MaxTime, api.MinTime),
	sp(api.MinTime-1, 0),
	sp(0, api.MaxTime+1),
	sp(api.MinTime-1, api.MaxTime+1),
	sp(api.MinTime-2, api.MinTime-1),
	sp(api.MinTime-1, api.MinTime),
	sp(api.MaxTime, api.MaxTime+1),
	sp(api.MaxTime+1, api.MaxTime+2),
	sp(0, api.Forever),
	sp(math.MinInt, math.MaxInt),
	sp(math.MaxInt, math.MinInt),
	sp(math.MinInt, math.MinInt),
	sp(math.MaxInt, math.MaxInt),
	sp(math.MinInt, 0),
	sp(0, math.MinInt),
	sp(0, math.MaxInt),
	sp(math.MaxInt, 0),
}

// isRight tells by the words of chapter 1 whether a span is right.
func isRight(a api.Span) bool {
	return a.From >= api.MinTime && a.From <= api.MaxTime && a.To >= api.MinTime && a.To <= api.MaxTime && a.From < a.To
}

// has tells by the words of the chapter whether a list has a time.
func has(l []api.Span, t int) bool {
	for _, a := range l {
		if isRight(a) && a.From <= t && t < a.To {
			return true
		}
	}
	return false
}

// kept tells by the words of the chapter whether a list is a cover.
func kept(l []api.Span) bool {
	for i, a := range l {
		if !isRight(a) || i+1 < len(l) && a.To >= l[i+1].From {
			return false
		}
	}
	return true
}

// far is how far from a middle times are gone over; spans' ends lie nearer to it, so that there is a time at each side of them.
const far = 5

// middles are times around which lists of right and wrong spans are held against their times one by one.
var middles = []int{api.MinTime, 0, api.MaxTime}

// slow answers the cover of the times near a middle that count, told by going over the times one by one.
func slow(middle int, counts func(t int) bool) []api.Span {
	var l []api.Span
	for t := middle - far; t <= middle+far; t++ {
		if !counts(t) {
			continue
		}
		if n := len(l); n > 0 && l[n-1].To == t {
			l[n-1].To++
			continue
		}
		l = append(l, sp(t, t+1))
	}
	return l
}

// near answers all spans, right or not, whose ends lie at most so far from a middle.
func near(middle, far int) []api.Span {
	var l []api.Span
	for from := middle - far; from <= middle+far; from++ {
		for to := middle - far; to <= middle+far; to++ {
			l = append(l, sp(from, to))
		}
	}
	return l
}

// each hands out all lists of up to n of the spans, in any order and the same ones among them.
func each(n int, spans []api.Span, told func(l []api.Span)) {
	var grow func(l []api.Span)
	grow = func(l []api.Span) {
		told(l)
		if len(l) == n {
			return
		}
		for _, a := range spans {
			grow(append(slices.Clone(l), a))
		}
	}
	grow(nil)
}

// lists are lists of spans with their covers.
var lists = []struct {
	name    string
	l, want []api.Span
}{
	{"nothing", nil, nil},
	{"empty", ls(), nil},
	{"one", ls(sp(2, 5)), ls(sp(2, 5))},
	{"one of a single time", ls(sp(2, 3)), ls(sp(2, 3))},
	{"apart", ls(sp(0, 2), sp(4, 6)), ls(sp(0, 2), sp(4, 6))},
	{"apart, falling", ls(sp(4, 6), sp(0, 2)), ls(sp(0, 2), sp(4, 6))},
	{"apart by one", ls(sp(3, 5), sp(0, 2)), ls(sp(0, 2), sp(3, 5))},
	{"touching", ls(sp(0, 3), sp(3, 5)), ls(sp(0, 5))},
	{"touching, falling, and a wrong one", ls(sp(3, 5), sp(0, 3), sp(9, 8)), ls(sp(0, 5))},
	{"three that touch", ls(sp(4, 6), sp(0, 2), sp(2, 4)), ls(sp(0, 6))},
	{"one fills the gap", ls(sp(0, 2), sp(4, 6), sp(1, 5)), ls(sp(0, 6))},
	{"the same", ls(sp(1, 4), sp(1, 4), sp(1, 4)), ls(sp(1, 4))},
	{"overlapping", ls(sp(0, 4), sp(2, 6)), ls(sp(0, 6))},
	{"overlapping, falling", ls(sp(2, 6), sp(0, 4)), ls(sp(0, 6))},
	{"within", ls(sp(0, 9), sp(3, 5)), ls(sp(0, 9))},
	{"within, ahead", ls(sp(3, 5), sp(0, 9)), ls(sp(0, 9))},
	{"within, then one that overlaps the greater", ls(sp(0, 9), sp(3, 5), sp(7, 12)), ls(sp(0, 12))},
	{"within, then one behind the lesser", ls(sp(0, 9), sp(3, 5), sp(6, 8)), ls(sp(0, 9))},
	{"the same beginning", ls(sp(0, 3), sp(0, 9), sp(0, 5)), ls(sp(0, 9))},
	{"the same end", ls(sp(3, 9), sp(0, 9), sp(5, 9)), ls(sp(0, 9))},
	{"below 0", ls(sp(-3, -1), sp(-1, 0), sp(-9, -5)), ls(sp(-9, -5), sp(-3, 0))},
	{"all of time", ls(all), ls(all)},
	{"all of time, and others", ls(sp(3, 5), all, first, last), ls(all)},
	{"both ends of time", ls(last, first), ls(first, last)},
	{"all of time in two", ls(sp(0, api.MaxTime), sp(api.MinTime, 0)), ls(all)},
	{"wrong ones alone", wrong, nil},
	{"wrong ones between", ls(wrong[0], sp(7, 9), wrong[7], wrong[15], sp(0, 7), wrong[8]), ls(sp(0, 9))},
}

func TestMake(t *testing.T) {
	for _, c := range lists {
		if got := cover.Make(c.l...); !slices.Equal(got, c.want) {
			t.Errorf("%s: Make(%v) = %v, not %v", c.name, c.l, got, c.want)
		}
	}
}

// TestWrongSpansArePassedOver: a wrong span at any place of a list changes no answer.
func TestWrongSpansArePassedOver(t *testing.T) {
	l := ls(sp(6, 8), sp(0, 2), sp(1, 3))
	made := ls(sp(0, 3), sp(6, 8))
	for _, w := range wrong {
		for place := range len(l) + 1 {
			with := slices.Insert(slices.Clone(l), place, w)
			if got := cover.Make(with...); !slices.Equal(got, made) {
				t.Errorf("Make(%v) = %v", with, got)
			}
			if got := cover.Or(with, ls(w, sp(3, 4))); !slices.Equal(got, ls(sp(0, 4), sp(6, 8))) {
				t.Errorf("Or(%v) = %v", with, got)
			}
			if got := cover.And(with, ls(sp(2, 7), w)); !slices.Equal(got, ls(sp(2, 3), sp(6, 7))) {
				t.Errorf("And(%v) = %v", with, got)
			}
			if got := cover.Less(with, ls(w, sp(1, 2), w)); !slices.Equal(got, ls(sp(0, 1), sp(2, 3), sp(6, 8))) {
				t.Errorf("Less(%v) = %v", with, got)
			}
			if got := cover.Long(with...); got != 5 {
				t.Errorf("Long(%v) = %d", with, got)
			}
			if got := cover.Gaps(sp(0, 9), with...); !slices.Equal(got, ls(sp(3, 6), sp(8, 9))) {
				t.Errorf("Gaps(%v) = %v", with, got)
			}
			if got := slices.Collect(cover.Borders(with...)); !slices.Equal(got, []int{0, 3, 6, 8}) {
				t.Errorf("Borders(%v) = %v", with, got)
			}
			for at := -2; at < 12; at++ {
				if got := cover.Has(with, at); got != has(made, at) {
					t.Errorf("Has(%v, %d) = %v", with, at, got)
				}
			}
		}
	}
}

func TestKept(t *testing.T) {
	for _, c := range []struct {
		name string
		l    []api.Span
		want bool
	}{
		{"nothing", nil, true},
		{"empty", ls(), true},
		{"one", ls(sp(0, 5)), true},
		{"apart by one", ls(sp(0, 5), sp(6, 7)), true},
		{"three", ls(sp(-9, -5), sp(0, 5), sp(7, 9)), true},
		{"all of time", ls(all), true},
		{"both ends of time", ls(first, last), true},
		{"touching", ls(sp(0, 5), sp(5, 7)), false},
		{"touching later", ls(sp(-9, -5), sp(0, 5), sp(5, 7)), false},
		{"overlapping", ls(sp(0, 5), sp(4, 7)), false},
		{"within", ls(sp(0, 9), sp(3, 5)), false},
		{"the same", ls(sp(0, 5), sp(0, 5)), false},
		{"falling", ls(sp(6, 7), sp(0, 5)), false},
		{"falling at last", ls(sp(3, 4), sp(6, 7), sp(0, 1)), false},
		{"falling and touching", ls(sp(5, 7), sp(0, 5)), false},
		{"both ends of time, falling", ls(last, first), false},
	} {
		if got := cover.Kept(c.l...); got != c.want {
			t.Errorf("%s: Kept(%v) = %v", c.name, c.l, got)
		}
	}
	for _, w := range wrong {
		for _, l := range [][]api.Span{{w}, {w, sp(20, 30)}, {sp(-30, -20), w}, {sp(-30, -20), w, sp(20, 30)}} {
			if cover.Kept(l...) {
				t.Errorf("Kept(%v) = true", l)
			}
		}
	}
}

// TestOneList holds what is told of one list against its times one by one, at all lists of up to
// three spans, right and wrong ones, around 0 and at both ends of time.
func TestOneList(t *testing.T) {
	for _, middle := range middles {
		each(3, near(middle, 2), func(l []api.Span) {
			if fault := faultOfOne(middle, l); fault != "" {
				t.Fatalf("%v: %s", l, fault)
			}
		})
	}
}

func faultOfOne(middle int, l []api.Span) string {
	want := slow(middle, func(t int) bool { return has(l, t) })
	made := cover.Make(l...)
	if !slices.Equal(made, want) || !kept(made) {
		return fmt.Sprint("Make = ", made, ", not ", want)
	}
	if again := cover.Make(made...); !slices.Equal(again, made) {
		return fmt.Sprint("made again ", again)
	}
	if got := cover.Kept(l...); got != kept(l) || !cover.Kept(made...) {
		return fmt.Sprint("Kept = ", got)
	}
	long := 0
	for t := middle - far; t <= middle+far; t++ {
		if got := cover.Has(l, t); got != has(l, t) {
			return fmt.Sprint("Has of ", t, " = ", got)
		}
		if has(l, t) {
			long++
		}
	}
	if got := cover.Long(l...); got != long {
		return fmt.Sprint("Long = ", got, ", not ", long)
	}
	var borders []int
	for _, a := range want {
		borders = append(borders, a.From, a.To)
	}
	if got := slices.Collect(cover.Borders(l...)); !slices.Equal(got, borders) {
		return fmt.Sprint("Borders = ", got, ", not ", borders)
	}
	return ""
}

// TestTwoLists holds what is told of two lists against the times one by one, at all lists of up to two spans.
func TestTwoLists(t *testing.T) {
	for _, middle := range middles {
		var some [][]api.Span
		each(2, near(middle, 1), func(l []api.Span) { some = append(some, l) })
		for _, a := range some {
			for _, b := range some {
				if fault := faultOfTwo(middle, a, b); fault != "" {
					t.Fatalf("a %v, b %v: %s", a, b, fault)
				}
			}
		}
	}
}

// TestTwoLongLists holds longer lists against each other, made by a short rule.
func TestTwoLongLists(t *testing.T) {
	for _, middle := range middles {
		spans := near(middle, 4)
		for seed := range 4000 {
			a, b := some(seed, spans), some(seed+1_000_003, spans)
			if fault := faultOfTwo(middle, a, b); fault != "" {
				t.Fatalf("a %v, b %v: %s", a, b, fault)
			}
		}
	}
}

// some answers up to seven of the spans, the same ones for the same seed.
func some(seed int, spans []api.Span) []api.Span {
	x := uint64(seed)*2862933555777941757 + 3037000493
	next := func(n int) int {
		x ^= x << 13
		x ^= x >> 7
		x ^= x << 17
		return int(x>>33) % n
	}
	l := make([]api.Span, next(8))
	for i := range l {
		l[i] = spans[next(len(spans))]
	}
	return l
}

func faultOfTwo(middle int, a, b []api.Span) string {
	or, and, less, back := cover.Or(a, b), cover.And(a, b), cover.Less(a, b), cover.Less(b, a)
	for _, c := range []struct {
		name   string
		got    []api.Span
		counts func(t int) bool
	}{
		{"Or", or, func(t int) bool { return has(a, t) || has(b, t) }},
		{"And", and, func(t int) bool { return has(a, t) && has(b, t) }},
		{"Less", less, func(t int) bool { return has(a, t) && !has(b, t) }},
		{"Less back", back, func(t int) bool { return has(b, t) && !has(a, t) }},
	} {
		if want := slow(middle, c.counts); !slices.Equal(c.got, want) || !kept(c.got) {
			return fmt.Sprint(c.name, " = ", c.got, ", not ", want)
		}
	}
	return faultAsSets(or, and, less, back)
}

// faultAsSets: the parts have no time in common, and all together are the whole.
func faultAsSets(whole []api.Span, parts ...[]api.Span) string {
	long := 0
	for i, p := range parts {
		long += cover.Long(p...)
		for _, q := range parts[i+1:] {
			if both := cover.And(p, q); len(both) > 0 {
				return fmt.Sprint(p, " and ", q, " have ", both)
			}
		}
	}
	if got := cover.Make(slices.Concat(parts...)...); !slices.Equal(got, whole) || long != cover.Long(whole...) {
		return fmt.Sprint("all together ", got, ", not ", whole)
	}
	return ""
}

// TestOrAndLess tells what the sweeps over times near a middle do not reach: spans as long as may be.
func TestOrAndLess(t *testing.T) {
	for _, c := range []struct{ a, b, or, and, less, back []api.Span }{
		{nil, nil, nil, nil, nil, nil},
		{ls(), nil, nil, nil, nil, nil},
		{ls(sp(0, 5)), nil, ls(sp(0, 5)), nil, ls(sp(0, 5)), nil},
		{ls(sp(0, 5), sp(5, 7)), ls(), ls(sp(0, 7)), nil, ls(sp(0, 7)), nil},
		{ls(sp(0, 5)), ls(sp(5, 9)), ls(sp(0, 9)), nil, ls(sp(0, 5)), ls(sp(5, 9))},
		{ls(sp(0, 5)), ls(sp(0, 5)), ls(sp(0, 5)), ls(sp(0, 5)), nil, nil},
		{ls(sp(0, 9)), ls(sp(3, 5)), ls(sp(0, 9)), ls(sp(3, 5)), ls(sp(0, 3), sp(5, 9)), nil},
		{ls(sp(0, 3), sp(6, 9)), ls(sp(3, 6)), ls(sp(0, 9)), nil, ls(sp(0, 3), sp(6, 9)), ls(sp(3, 6))},
		// Both lists turn at 4, yet what both have goes on nowhere.
		{ls(sp(0, 4), sp(6, 8)), ls(sp(4, 6), sp(8, 9)), ls(sp(0, 9)), nil, ls(sp(0, 4), sp(6, 8)), ls(sp(4, 6), sp(8, 9))},
		{ls(all), nil, ls(all), nil, ls(all), nil},
		{ls(all), ls(all), ls(all), ls(all), nil, nil},
		{ls(all), ls(sp(0, 1)), ls(all), ls(sp(0, 1)), ls(sp(api.MinTime, 0), sp(1, api.MaxTime)), nil},
		{ls(all), ls(last, first), ls(all), ls(first, last), ls(sp(api.MinTime+1, api.MaxTime-1)), nil},
		{ls(first), ls(last), ls(first, last), nil, ls(first), ls(last)},
		{ls(sp(api.MinTime, 0)), ls(sp(0, api.MaxTime)), ls(all), nil, ls(sp(api.MinTime, 0)), ls(sp(0, api.MaxTime))},
		{wrong, wrong, nil, nil, nil, nil},
		{ls(all), wrong, ls(all), nil, ls(all), nil},
	} {
		for _, x := range []struct {
			name      string
			got, want []api.Span
		}{
			{"Or", cover.Or(c.a, c.b), c.or},
			{"Or back", cover.Or(c.b, c.a), c.or},
			{"And", cover.And(c.a, c.b), c.and},
			{"And back", cover.And(c.b, c.a), c.and},
			{"Less", cover.Less(c.a, c.b), c.less},
			{"Less back", cover.Less(c.b, c.a), c.back},
		} {
			if !slices.Equal(x.got, x.want) {
				t.Errorf("%s of %v, %v = %v, not %v", x.name, c.a, c.b, x.got, x.want)
			}
		}
	}
}

func TestHas(t *testing.T) {
	l := ls(sp(4, 6), sp(0, 2), sp(2, 3))
	for _, c := range []struct {
		l    []api.Span
		t    int
		want bool
	}{
		{nil, 0, false},
		{ls(), 0, false},
		{l, -1, false}, {l, 0, true}, {l, 1, true}, {l, 2, true}, {l, 3, false}, {l, 4, true}, {l, 5, true}, {l, 6, false},
		{l, math.MinInt, false}, {l, math.MaxInt, false},
		{ls(all), api.MinTime, true}, {ls(all), api.MinTime - 1, false},
		{ls(all), api.MaxTime - 1, true}, {ls(all), api.MaxTime, false},
		// A span that is not right has none of the list's times, even between its ends.
		{ls(sp(api.MinTime-1, 5)), 0, false}, {ls(sp(0, api.MaxTime+1)), 0, false}, {ls(sp(math.MinInt, math.MaxInt)), 0, false},
	} {
		if got := cover.Has(c.l, c.t); got != c.want {
			t.Errorf("Has(%v, %d) = %v", c.l, c.t, got)
		}
	}
	for _, at := range []int{math.MinInt, api.MinTime - 1, api.MinTime, -1, 0, 1, 4, 5, 8, api.MaxTime - 1, api.MaxTime, api.Forever, math.MaxInt} {
		if cover.Has(wrong, at) {
			t.Errorf("wrong spans have %d", at)
		}
	}
}

func TestLong(t *testing.T) {
	for _, c := range []struct {
		l    []api.Span
		want int
	}{
		{nil, 0},
		{ls(sp(3, 4)), 1},
		{ls(sp(0, 5), sp(7, 9)), 7},
		{ls(sp(0, 5), sp(3, 9), sp(0, 5)), 9},
		{ls(sp(0, 9), sp(3, 5)), 9},
		{ls(all), 1 << 41},
		{ls(all, all, first, last), 1 << 41},
		{ls(first, last), 2},
		{wrong, 0},
	} {
		if got := cover.Long(c.l...); got != c.want {
			t.Errorf("Long(%v) = %d, not %d", c.l, got, c.want)
		}
	}
}

func TestGaps(t *testing.T) {
	for _, c := range []struct {
		within  api.Span
		l, want []api.Span
	}{
		{sp(0, 9), ls(sp(2, 3)), ls(sp(0, 2), sp(3, 9))},
		{sp(0, 9), nil, ls(sp(0, 9))},
		{sp(0, 9), ls(), ls(sp(0, 9))},
		{sp(0, 9), wrong, ls(sp(0, 9))},
		{sp(0, 9), ls(sp(0, 9)), nil},
		{sp(0, 9), ls(sp(-5, 20)), nil},
		{sp(0, 9), ls(sp(5, 9), sp(0, 5)), nil},
		{sp(0, 9), ls(sp(4, 12), sp(-3, 5)), nil},
		{sp(0, 9), ls(all), nil},
		{sp(0, 9), ls(sp(9, 12)), ls(sp(0, 9))},
		{sp(0, 9), ls(sp(-3, 0)), ls(sp(0, 9))},
		{sp(0, 9), ls(sp(20, 30), sp(-30, -20)), ls(sp(0, 9))},
		{sp(0, 9), ls(sp(-3, 2), sp(7, 12)), ls(sp(2, 7))},
		{sp(0, 9), ls(sp(7, 8), sp(1, 2), sp(4, 5)), ls(sp(0, 1), sp(2, 4), sp(5, 7), sp(8, 9))},
		{sp(3, 4), ls(sp(0, 3), sp(4, 9)), ls(sp(3, 4))},
		{all, nil, ls(all)},
		{all, ls(all), nil},
		{all, ls(first, last), ls(sp(api.MinTime+1, api.MaxTime-1))},
		{all, ls(sp(api.MinTime+1, api.MaxTime-1)), ls(first, last)},
	} {
		if got := cover.Gaps(c.within, c.l...); !slices.Equal(got, c.want) {
			t.Errorf("Gaps(%v, %v) = %v, not %v", c.within, c.l, got, c.want)
		}
	}
	for _, w := range wrong {
		for _, l := range [][]api.Span{nil, {sp(2, 3)}, {all}, {w}, wrong} {
			if got := cover.Gaps(w, l...); len(got) != 0 {
				t.Errorf("Gaps(%v, %v) = %v", w, l, got)
			}
		}
	}
}

// TestGapsAtAllTimes holds Gaps against the times one by one.
func TestGapsAtAllTimes(t *testing.T) {
	for _, middle := range middles {
		spans := near(middle, 2)
		each(2, spans, func(l []api.Span) {
			for _, within := range spans {
				want := slow(middle, func(t int) bool { return has(ls(within), t) && !has(l, t) })
				if got := cover.Gaps(within, l...); !slices.Equal(got, want) {
					t.Fatalf("Gaps(%v, %v) = %v, not %v", within, l, got, want)
				}
			}
		})
	}
}

func TestBorders(t *testing.T) {
	for _, c := range lists {
		var want []int
		for _, a := range c.want {
			want = append(want, a.From, a.To)
		}
		borders := cover.Borders(c.l...)
		for range 2 { // They may be gone over again.
			if got := slices.Collect(borders); !slices.Equal(got, want) {
				t.Errorf("%s: Borders(%v) = %v, not %v", c.name, c.l, got, want)
			}
		}
		for n := range len(want) {
			if got := ahead(n+1, borders); !slices.Equal(got, want[:n+1]) {
				t.Errorf("%s: the first %d of Borders(%v) = %v", c.name, n+1, c.l, got)
			}
		}
	}
}

// ahead answers the first n times, and asks for no more; it tells one too many, if more are handed out all the same.
func ahead(n int, times func(yield func(int) bool)) []int {
	var l []int
	times(func(t int) bool {
		l = append(l, t)
		return len(l) < n
	})
	return l
}

// TestBordersStopped: a loop that is left takes none more, and begins anew the next time.
func TestBordersStopped(t *testing.T) {
	borders := cover.Borders(sp(6, 8), sp(0, 2), sp(10, 12))
	for range 3 {
		var got []int
		for at := range borders {
			if at == 8 {
				break
			}
			got = append(got, at)
		}
		if !slices.Equal(got, []int{0, 2, 6}) {
			t.Fatal(got)
		}
	}
	for at := range cover.Borders() {
		t.Fatal("a border of nothing:", at)
	}
	for at := range cover.Borders(wrong...) {
		t.Fatal("a border of wrong spans:", at)
	}
}

// TestBordersWithin: one going over stands within another one.
func TestBordersWithin(t *testing.T) {
	borders := cover.Borders(sp(0, 2), sp(4, 6))
	var got []int
	for x := range borders {
		for y := range borders {
			got = append(got, 10*x+y)
		}
	}
	want := []int{0, 2, 4, 6, 20, 22, 24, 26, 40, 42, 44, 46, 60, 62, 64, 66}
	if !slices.Equal(got, want) {
		t.Fatal(got)
	}
}

// TestBordersKeepNoList: what is written to the list later is not seen in its borders.
func TestBordersKeepNoList(t *testing.T) {
	l := ls(sp(0, 2), sp(4, 6))
	borders := cover.Borders(l...)
	l[0], l[1] = sp(7, 8), sp(1, 3)
	if got := slices.Collect(borders); !slices.Equal(got, []int{0, 2, 4, 6}) {
		t.Fatal(got)
	}
	for at := range borders {
		l[1] = sp(at, at+9)
	}
	if got := slices.Collect(borders); !slices.Equal(got, []int{0, 2, 4, 6}) {
		t.Fatal(got)
	}
}

// calls are all calls that answer a list, of two lists.
var calls = []struct {
	name string
	call func(a, b []api.Span) []api.Span
}{
	{"Make", func(a, b []api.Span) []api.Span { return cover.Make(a...) }},
	{"Or", cover.Or},
	{"And", cover.And},
	{"Less", cover.Less},
	{"Gaps", func(a, b []api.Span) []api.Span { return cover.Gaps(a[0], b...) }},
}

// TestArgumentsStay: no call writes to its arguments, not even to what lies behind their ends.
func TestArgumentsStay(t *testing.T) {
	a := ls(sp(0, 9), sp(3, 3), sp(7, 12), sp(-4, 0), sp(20, 22))
	b := ls(sp(21, 25), sp(5, 6), sp(9, 8), sp(2, 5), sp(-9, -8))
	wasA, wasB := slices.Clone(a), slices.Clone(b)
	for n := 1; n <= len(a); n++ {
		for _, c := range calls {
			c.call(a[:n], b[:n])
			c.call(a[:n], a[:n])
			c.call(b[:n], a[:n])
		}
		cover.Kept(a[:n]...)
		cover.Has(a[:n], 1)
		cover.Long(a[:n]...)
		ahead(n, cover.Borders(a[:n]...))
		if !slices.Equal(a, wasA) || !slices.Equal(b, wasB) {
			t.Fatalf("%v and %v became %v and %v", wasA, wasB, a, b)
		}
	}
}

// TestAnswersAreNew: what is written to an answer is seen in no other one, and in no argument; and the other way round.
func TestAnswersAreNew(t *testing.T) {
	for _, c := range calls {
		for _, lists := range [][2][]api.Span{
			{ls(sp(0, 5), sp(7, 9)), nil},
			{ls(sp(0, 5), sp(7, 9)), ls(sp(0, 5), sp(7, 9))},
			{ls(sp(0, 9)), ls(sp(3, 5))},
			{ls(sp(0, 9)), ls(sp(20, 25))},
		} {
			a, b := lists[0], lists[1]
			wasA, wasB := slices.Clone(a), slices.Clone(b)
			got := c.call(a, b)
			want := slices.Clone(got)
			for i := range got {
				got[i] = sp(-1, -1)
			}
			_ = append(got, sp(-2, -2))
			if !slices.Equal(a, wasA) || !slices.Equal(b, wasB) {
				t.Errorf("%s: what is written to the answer is seen in %v, %v", c.name, a, b)
			}
			got = c.call(a, b)
			if !slices.Equal(got, want) {
				t.Errorf("%s: %v, not %v", c.name, got, want)
			}
			for i := range a {
				a[i] = sp(-1, -1)
			}
			for i := range b {
				b[i] = sp(-1, -1)
			}
			if !slices.Equal(got, want) {
				t.Errorf("%s: what is written to an argument is seen in %v", c.name, got)
			}
		}
	}
}

// TestEndsEverywhere asks every call at the ends of all that may be given to it: none panics, and what is told is right.
func TestEndsEverywhere(t *testing.T) {
	ends := []int{
		math.MinInt, math.MinInt + 1, -api.Forever, api.MinTime - 1, api.MinTime, api.MinTime + 1,
		-1, 0, 1, api.MaxTime - 1, api.MaxTime, api.MaxTime + 1, api.Forever, math.MaxInt - 1, math.MaxInt,
	}
	var spans []api.Span
	for _, from := range ends {
		for _, to := range ends {
			spans = append(spans, sp(from, to))
		}
	}
	for _, a := range spans {
		for _, b := range spans {
			if fault := faultAtEnds(ends, ls(a), ls(b)); fault != "" {
				t.Fatalf("a %v, b %v: %s", a, b, fault)
			}
		}
	}
	if got := cover.Make(spans...); !slices.Equal(got, ls(all)) {
		t.Fatal(got)
	}
}

// faultAtEnds tells times apart at the ends alone: between two of them each list has all or nothing.
func faultAtEnds(ends []int, a, b []api.Span) string {
	whole := slices.Concat(a, b)
	or, and, less, back := cover.Or(a, b), cover.And(a, b), cover.Less(a, b), cover.Less(b, a)
	gaps, made := cover.Gaps(a[0], b...), cover.Make(whole...)
	for _, l := range [][]api.Span{or, and, less, back, gaps, made} {
		if !kept(l) || !cover.Kept(l...) {
			return fmt.Sprint("no cover ", l)
		}
	}
	if cover.Kept(whole...) != kept(whole) {
		return "Kept"
	}
	for _, t := range ends {
		inA, inB := has(a, t), has(b, t)
		if cover.Has(whole, t) != (inA || inB) || has(or, t) != (inA || inB) || has(and, t) != (inA && inB) {
			return fmt.Sprint("Has, Or or And at ", t)
		}
		if has(less, t) != (inA && !inB) || has(back, t) != (inB && !inA) {
			return fmt.Sprint("Less at ", t)
		}
	}
	if !slices.Equal(made, or) || !slices.Equal(gaps, less) {
		return fmt.Sprint("Make ", made, ", Gaps ", gaps)
	}
	if borders := slices.Collect(cover.Borders(whole...)); len(borders) != 2*len(or) || !slices.IsSorted(borders) {
		return fmt.Sprint("Borders ", borders)
	}
	return faultAsSets(or, and, less, back)
}

// TestManySpans: long lists end, too.
func TestManySpans(t *testing.T) {
	const n = 1 << 16
	var even, odd []api.Span
	for i := range n {
		at := i * 40503 % n // Each place once, in no order.
		even = append(even, sp(4*at, 4*at+2))
		odd = append(odd, sp(4*at+2, 4*at+4))
	}
	if got := cover.Make(even...); len(got) != n || got[n-1] != sp(4*n-4, 4*n-2) {
		t.Errorf("Make: %d spans", len(got))
	}
	if got := cover.Or(even, odd); !slices.Equal(got, ls(sp(0, 4*n))) {
		t.Errorf("Or: %d spans", len(got))
	}
	if got := cover.And(even, odd); len(got) != 0 {
		t.Errorf("And: %d spans", len(got))
	}
	if got := cover.Less(odd, even); len(got) != n || got[0] != sp(2, 4) {
		t.Errorf("Less: %d spans", len(got))
	}
	if got := cover.Gaps(sp(0, 4*n), even...); len(got) != n || got[0] != sp(2, 4) {
		t.Errorf("Gaps: %d spans", len(got))
	}
	if got := cover.Long(even...); got != 2*n {
		t.Errorf("Long: %d", got)
	}
	if got := len(slices.Collect(cover.Borders(even...))); got != 2*n {
		t.Errorf("Borders: %d", got)
	}
}
