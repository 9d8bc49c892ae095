package bucket_test

import (
	"fmt"
	"math"
	"math/big"
	"math/rand"
	"slices"
	"testing"

	"erratum/api"
	"erratum/bucket"
	"erratum/sketch"
)

// Short names of what these tests are written with.
var (
	fl, fs, sp, right, has = sketch.Field, sketch.Fields, sketch.Span, sketch.Right, sketch.Has
	strange, ends          = sketch.Strange(), sketch.Ends()
)

// The least time, and the first one that is behind all.
const (
	least = -1 << 40
	end   = 1 << 40
)

// Widths that are one, and ints that are none.
var (
	widths = []int{1, 2, 3, 7, 10, 64, 1000, 1<<20 - 1, 1 << 20, 1<<39 - 1, 1 << 39, 1<<39 + 1, 1<<40 - 1, 1 << 40}
	none   = []int{0, -1, -10, -1 << 40, 1<<40 + 1, 1 << 41, 1 << 62, math.MinInt, math.MinInt + 1, math.MaxInt}
)

// times answers k times the width as a number that does not wrap round.
func times(k, wide int) *big.Int {
	return new(big.Int).Mul(big.NewInt(int64(k)), big.NewInt(int64(wide)))
}

// slowFloor answers the bucket that has t: the greatest number whose multiple of the width is not above it.
func slowFloor(t, wide int) int {
	return int(new(big.Int).Div(big.NewInt(int64(t)), big.NewInt(int64(wide))).Int64())
}

// slowSpan answers the times of a bucket by the chapter's words, and whether there are any.
func slowSpan(k, wide int) (api.Span, bool) {
	if wide < 1 || wide > 1<<40 {
		return api.Span{}, false
	}
	from, to := times(k, wide), new(big.Int).Add(times(k, wide), big.NewInt(int64(wide)))
	if from.Cmp(big.NewInt(least)) < 0 {
		from.SetInt64(least)
	}
	if to.Cmp(big.NewInt(end)) > 0 {
		to.SetInt64(end)
	}
	if from.Cmp(to) >= 0 {
		return api.Span{}, false
	}
	return sp(int(from.Int64()), int(to.Int64())), true
}

func TestFloor(t *testing.T) {
	for _, c := range []struct{ t, wide, want int }{
		// The chapter's example, and the times around it.
		{-1, 10, -1},
		{-21, 10, -3}, {-20, 10, -2}, {-19, 10, -2}, {-11, 10, -2}, {-10, 10, -1}, {-9, 10, -1},
		{0, 10, 0}, {1, 10, 0}, {9, 10, 0}, {10, 10, 1}, {19, 10, 1}, {20, 10, 2},
		// Buckets of one time each.
		{-2, 1, -2}, {-1, 1, -1}, {0, 1, 0}, {1, 1, 1},
		{least, 1, least}, {least + 1, 1, least + 1}, {end - 1, 1, end - 1},
		// The ends of time.
		{least, 2, -1 << 39}, {least + 1, 2, -1 << 39}, {least + 2, 2, -1<<39 + 1}, {end - 1, 2, 1<<39 - 1},
		{least, 10, -109951162778}, {least + 5, 10, -109951162778}, {least + 6, 10, -109951162777}, {end - 1, 10, 109951162777},
		{least, 3, -366503875926}, {end - 1, 3, 366503875925},
		// The greatest widths: both halves of time are a bucket, or a little more.
		{least, 1 << 40, -1}, {-1, 1 << 40, -1}, {0, 1 << 40, 0}, {end - 1, 1 << 40, 0},
		{least, 1<<40 - 1, -2}, {least + 1, 1<<40 - 1, -1}, {end - 2, 1<<40 - 1, 0}, {end - 1, 1<<40 - 1, 1},
	} {
		if got, e := bucket.Floor(c.t, c.wide); got != c.want || e != api.OK {
			t.Errorf("Floor(%d, %d) = %d, %d, not %d", c.t, c.wide, got, e, c.want)
		}
	}
}

func TestFloorOfNone(t *testing.T) {
	no := func(time, wide int) {
		if got, e := bucket.Floor(time, wide); got != 0 || e != api.ErrArg {
			t.Errorf("Floor(%d, %d) = %d, %d, not ErrArg", time, wide, got, e)
		}
	}
	outside := []int{least - 1, least - 2, end, end + 1, -1 << 62, 1 << 62, math.MinInt, math.MaxInt}
	for _, time := range outside {
		for _, wide := range slices.Concat(widths, none) {
			no(time, wide)
		}
	}
	for _, time := range []int{least, -1, 0, 1, 35, end - 1} {
		for _, wide := range none {
			no(time, wide)
		}
	}
}

func TestSpan(t *testing.T) {
	for _, c := range []struct {
		k, wide int
		want    api.Span
	}{
		// The chapter's example, and the buckets around it.
		{-1, 10, sp(-10, 0)},
		{-2, 10, sp(-20, -10)}, {0, 10, sp(0, 10)}, {1, 10, sp(10, 20)}, {7, 10, sp(70, 80)},
		{-1, 1, sp(-1, 0)}, {0, 1, sp(0, 1)}, {1, 1, sp(1, 2)},
		// The first and the last bucket that have times, whole.
		{least, 1, sp(least, least+1)}, {end - 1, 1, sp(end-1, end)},
		{-1 << 39, 2, sp(least, least+2)}, {1<<39 - 1, 2, sp(end-2, end)},
		{-1, 1 << 40, sp(least, 0)}, {0, 1 << 40, sp(0, end)},
		{-2, 1 << 39, sp(least, -1<<39)}, {1, 1 << 39, sp(1<<39, end)},
		// Those of which a part only is within the times.
		{-109951162778, 10, sp(least, least+6)}, {109951162777, 10, sp(end-6, end)},
		{-366503875926, 3, sp(least, least+1)}, {366503875925, 3, sp(end-1, end)},
		{-2, 1<<40 - 1, sp(least, least+1)}, {-1, 1<<40 - 1, sp(least+1, 0)}, {0, 1<<40 - 1, sp(0, end-1)}, {1, 1<<40 - 1, sp(end-1, end)},
		{-2, 1<<39 + 1, sp(least, -1<<39-1)}, {1, 1<<39 + 1, sp(1<<39+1, end)},
	} {
		if got, ok := bucket.Span(c.k, c.wide); got != c.want || !ok {
			t.Errorf("Span(%d, %d) = %v, %t, not %v", c.k, c.wide, got, ok, c.want)
		}
	}
}

func TestSpanOfNone(t *testing.T) {
	no := func(k, wide int) {
		if got, ok := bucket.Span(k, wide); got != (api.Span{}) || ok {
			t.Errorf("Span(%d, %d) = %v, %t", k, wide, got, ok)
		}
	}
	for _, wide := range none {
		for _, k := range ends {
			no(k, wide)
		}
	}
	// The buckets just outside, and those whose multiple of the width wraps round to a time.
	for _, c := range [][2]int{
		{least - 1, 1}, {end, 1}, {-1<<39 - 1, 2}, {1 << 39, 2},
		{-109951162779, 10}, {109951162778, 10}, {-2, 1 << 40}, {1, 1 << 40},
		{-3, 1<<40 - 1}, {2, 1<<40 - 1}, {-3, 1 << 39}, {2, 1 << 39},
		{1 << 63 / (1 << 40) * 2, 1 << 40}, {-1 << 63 / (1 << 40) * 2, 1 << 40}, {1 << 62, 4}, {-1 << 62, 4}, {1 << 62, 8}, {1<<62 + 1, 4},
		{math.MinInt, 2}, {math.MaxInt, 2}, {math.MinInt, 1}, {math.MaxInt, 1}, {math.MinInt, 1 << 40}, {math.MaxInt, 1 << 40},
	} {
		no(c[0], c[1])
	}
}

// faultAt tells what is wrong with Floor at a time, and with Span of the bucket that has it, and of those beside it.
func faultAt(time, wide int) string {
	k, e := bucket.Floor(time, wide)
	if e != api.OK || k != slowFloor(time, wide) {
		return fmt.Sprint("Floor tells ", k, e)
	}
	for by := -3; by <= 3; by++ {
		got, ok := bucket.Span(k+by, wide)
		want, there := slowSpan(k+by, wide)
		if got != want || ok != there || ok != right(got) {
			return fmt.Sprint("Span of ", k+by, " is ", got, ok, ", not ", want)
		}
		if has(got, time) != (by == 0) {
			return fmt.Sprint("Span of ", k+by, " is ", got)
		}
	}
	return ""
}

// TestEachTimeHasOneBucket: all small widths, at all times around 0 and at both ends, where spans of widths begin, and at many others.
func TestEachTimeHasOneBucket(t *testing.T) {
	hold := func(time, wide int) {
		if fault := faultAt(time, wide); fault != "" {
			t.Fatalf("%d, in buckets of %d: %s", time, wide, fault)
		}
	}
	for wide := 1; wide <= 40; wide++ {
		for i := range 100 {
			hold(i-50, wide)
			hold(least+i, wide)
			hold(end-1-i, wide)
		}
	}
	r := rand.New(rand.NewSource(1))
	for range 40000 {
		wide := 1 + r.Intn(1<<r.Intn(41))
		k := r.Intn(2<<40/wide+1) - 1<<40/wide
		for _, time := range []int{k*wide - 1, k * wide, k*wide + 1, k*wide + r.Intn(wide), r.Intn(2<<40) - 1<<40} {
			if least <= time && time < end {
				hold(time, wide)
			}
		}
	}
}

// TestSpanOfAny holds Span against the chapter's words at any ints whatever.
func TestSpanOfAny(t *testing.T) {
	hold := func(k, wide int) {
		got, ok := bucket.Span(k, wide)
		if want, there := slowSpan(k, wide); got != want || ok != there {
			t.Fatalf("Span(%d, %d) = %v, %t, not %v", k, wide, got, ok, want)
		}
	}
	for _, k := range ends {
		for _, wide := range slices.Concat(ends, widths, none) {
			hold(k, wide)
			hold(k/max(wide, 1), wide)
		}
	}
	r := rand.New(rand.NewSource(2))
	for range 40000 {
		hold(int(r.Uint64())>>r.Intn(64), 1<<r.Intn(64)+r.Intn(3)-1)
		hold(int(r.Uint64())>>r.Intn(64), int(r.Uint64())>>r.Intn(64))
	}
}

// TestSpansFollow: the spans of the buckets one behind the other are all times.
func TestSpansFollow(t *testing.T) {
	for _, wide := range []int{1 << 30, 1<<30 + 1, 1<<33 - 1, 3 << 35, 1<<39 - 1, 1 << 39, 1<<39 + 1, 1<<40 - 1, 1 << 40} {
		k, _ := bucket.Floor(least, wide)
		if _, ok := bucket.Span(k-1, wide); ok {
			t.Errorf("buckets of %d: there is one ahead of the first", wide)
		}
		at := least
		for ; at < end; k++ {
			a, ok := bucket.Span(k, wide)
			if !ok || a.From != at || a.To <= at {
				t.Fatalf("buckets of %d: at %d the bucket %d has %v", wide, at, k, a)
			}
			at = a.To
		}
		if _, ok := bucket.Span(k, wide); at != end || ok {
			t.Errorf("buckets of %d: they end at %d, and %t", wide, at, ok)
		}
	}
}

// ks makes the writing of a list of buckets short.
func ks(l ...int) []int { return l }

func TestOver(t *testing.T) {
	for _, c := range []struct {
		a    api.Span
		wide int
		want []int
	}{
		// Within one bucket.
		{sp(3, 4), 10, ks(0)}, {sp(0, 10), 10, ks(0)}, {sp(0, 1), 10, ks(0)}, {sp(9, 10), 10, ks(0)},
		{sp(-1, 0), 10, ks(-1)}, {sp(-10, 0), 10, ks(-1)}, {sp(-10, -9), 10, ks(-1)}, {sp(20, 30), 10, ks(2)},
		// Over two, just beyond a border on one side or on both.
		{sp(0, 11), 10, ks(0, 1)}, {sp(9, 11), 10, ks(0, 1)}, {sp(9, 20), 10, ks(0, 1)}, {sp(0, 20), 10, ks(0, 1)},
		{sp(-1, 1), 10, ks(-1, 0)}, {sp(-10, 10), 10, ks(-1, 0)}, {sp(-11, -9), 10, ks(-2, -1)}, {sp(-11, 0), 10, ks(-2, -1)},
		// Over several.
		{sp(0, 30), 10, ks(0, 1, 2)}, {sp(9, 21), 10, ks(0, 1, 2)}, {sp(-1, 31), 10, ks(-1, 0, 1, 2, 3)},
		{sp(-35, -9), 10, ks(-4, -3, -2, -1)}, {sp(-2, 3), 1, ks(-2, -1, 0, 1, 2)}, {sp(-3, 3), 2, ks(-2, -1, 0, 1)},
		// Both ends of time.
		{sp(least, least+1), 1, ks(least)}, {sp(least, least+3), 1, ks(least, least+1, least+2)}, {sp(end-2, end), 1, ks(end-2, end-1)},
		{sp(least, least+6), 10, ks(-109951162778)}, {sp(least, least+7), 10, ks(-109951162778, -109951162777)},
		{sp(end-6, end), 10, ks(109951162777)}, {sp(end-7, end), 10, ks(109951162776, 109951162777)},
		{sp(least, end), 1 << 40, ks(-1, 0)}, {sp(least, 0), 1 << 40, ks(-1)}, {sp(0, end), 1 << 40, ks(0)}, {sp(-1, 1), 1 << 40, ks(-1, 0)},
		{sp(least, end), 1<<40 - 1, ks(-2, -1, 0, 1)}, {sp(least+1, end-1), 1<<40 - 1, ks(-1, 0)}, {sp(least, end), 1 << 39, ks(-2, -1, 0, 1)},
	} {
		many := len(c.want)
		for _, most := range []int{many, many + 1, 1 << 40, math.MaxInt} {
			if got, e := bucket.Over(c.a, c.wide, most); !slices.Equal(got, c.want) || e != api.OK {
				t.Errorf("Over(%v, %d, %d) = %v, %d, not %v", c.a, c.wide, most, got, e, c.want)
			}
		}
		for _, most := range []int{many - 1, 0, -1, -1 << 40, math.MinInt} {
			if got, e := bucket.Over(c.a, c.wide, most); len(got) != 0 || e != api.ErrBig {
				t.Errorf("Over(%v, %d, %d) = %v, %d, not ErrBig", c.a, c.wide, most, got, e)
			}
		}
	}
}

// TestOverErrors: of several errors the one that is named first is told.
func TestOverErrors(t *testing.T) {
	mosts := []int{math.MinInt, -1, 0, 1, 5, math.MaxInt}
	for _, a := range strange {
		for _, wide := range slices.Concat(widths, none) {
			for _, most := range mosts {
				if got, e := bucket.Over(a, wide, most); len(got) != 0 || e != api.ErrSpan {
					t.Errorf("Over(%v, %d, %d) = %v, %d, not ErrSpan", a, wide, most, got, e)
				}
			}
		}
	}
	for _, a := range []api.Span{sp(0, 1), sp(-5, 25), sp(least, end), sp(least, least+1), sp(end-1, end)} {
		for _, wide := range none {
			for _, most := range mosts {
				if got, e := bucket.Over(a, wide, most); len(got) != 0 || e != api.ErrArg {
					t.Errorf("Over(%v, %d, %d) = %v, %d, not ErrArg", a, wide, most, got, e)
				}
			}
		}
	}
}

// TestOverTooMany: how many there are is told ahead of a list of them, for which there would be no room.
func TestOverTooMany(t *testing.T) {
	for _, c := range []struct {
		a          api.Span
		wide, most int
	}{
		{sp(least, end), 1, 2<<40 - 1}, {sp(least, end), 1, 5}, {sp(least, end), 1, 0}, {sp(least, end), 1, math.MinInt},
		{sp(least, end), 2, 1<<40 - 1}, {sp(least, 0), 1, 1<<40 - 1}, {sp(1, end), 1, 1<<40 - 2}, {sp(least, end), 3, 733007751851},
	} {
		if got, e := bucket.Over(c.a, c.wide, c.most); len(got) != 0 || e != api.ErrBig {
			t.Errorf("Over(%v, %d, %d) = %d buckets, %d, not ErrBig", c.a, c.wide, c.most, len(got), e)
		}
	}
	const many = 1 << 20
	got, e := bucket.Over(sp(least, least+many), 1, many)
	if len(got) != many || got[0] != least || got[many-1] != least+many-1 || e != api.OK {
		t.Errorf("%d of %d buckets, %d", len(got), many, e)
	}
}

// slowOver goes over the times one by one.
func slowOver(a api.Span, wide int) []int {
	var l []int
	for time := a.From; time < a.To; time++ {
		l = append(l, slowFloor(time, wide))
	}
	return slices.Compact(l)
}

// faultOfOver tells what is wrong with Over of a right span that has few times.
func faultOfOver(a api.Span, wide int) string {
	want := slowOver(a, wide)
	for _, most := range []int{len(want), len(want) + 1, math.MaxInt} {
		if got, e := bucket.Over(a, wide, most); !slices.Equal(got, want) || e != api.OK {
			return fmt.Sprint("of most ", most, " are told ", got, e, ", not ", want)
		}
	}
	if got, e := bucket.Over(a, wide, len(want)-1); len(got) != 0 || e != api.ErrBig {
		return fmt.Sprint("of one less are told ", got, e)
	}
	return ""
}

// TestOverOfAllShort: all spans of some times around 0 and at both ends of time, in buckets of all small widths and of some great ones.
func TestOverOfAllShort(t *testing.T) {
	for _, first := range []int{-8, least, end - 16} {
		for from := first; from < first+16; from++ {
			for to := from + 1; to <= first+16; to++ {
				for _, wide := range []int{1, 2, 3, 4, 5, 7, 8, 9, 15, 16, 17, 1<<39 + 1, 1<<40 - 3, 1 << 40} {
					if fault := faultOfOver(sp(from, to), wide); fault != "" {
						t.Fatalf("%v, in buckets of %d: %s", sp(from, to), wide, fault)
					}
				}
			}
		}
	}
}

// TestOverOfMany: long spans in buckets of any width: each has a time of the span, and those beside them have none.
func TestOverOfMany(t *testing.T) {
	r := rand.New(rand.NewSource(3))
	for range 20000 {
		from := r.Intn(2<<40) - 1<<40
		a := sp(from, from+1+r.Intn(1<<40-from))
		wide := max(1, (a.To-a.From)/(1+r.Intn(40))+r.Intn(5)-2)
		wide = min(wide, 1<<40)
		got, e := bucket.Over(a, wide, math.MaxInt)
		if e != api.OK || len(got) == 0 {
			t.Fatalf("%v, in buckets of %d: %v, %d", a, wide, got, e)
		}
		for i, k := range got {
			if b, _ := bucket.Span(k, wide); !right(b) || b.To <= a.From || b.From >= a.To || i > 0 && k != got[i-1]+1 {
				t.Fatalf("%v, in buckets of %d: %v: %d has %v", a, wide, got, k, b)
			}
		}
		if k, last := got[0], got[len(got)-1]; k != slowFloor(a.From, wide) || last != slowFloor(a.To-1, wide) {
			t.Fatalf("%v, in buckets of %d: from %d to %d", a, wide, k, last)
		}
	}
}

// TestOverIsNew: no two answers share anything.
func TestOverIsNew(t *testing.T) {
	one, _ := bucket.Over(sp(0, 50), 10, 5)
	two, _ := bucket.Over(sp(0, 50), 10, 5)
	one[2] = 77
	_ = append(one, 88)
	three, _ := bucket.Over(sp(0, 50), 10, 5)
	if want := ks(0, 1, 2, 3, 4); !slices.Equal(two, want) || !slices.Equal(three, want) {
		t.Errorf("what is written to an answer is seen in another one: %v, %v", two, three)
	}
}
