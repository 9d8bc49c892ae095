package state_test

import (
	"fmt"
	"math"
	"math/rand"
	"slices"
	"strings"
	"testing"

	"erratum/api"
	"erratum/field"
	"erratum/sketch"
	"erratum/state"
)

// Short names of what these tests are written with.
var (
	fl, fs, sp           = sketch.Field, sketch.Fields, sketch.Span
	sameVersions, copied = sketch.SameVersions, sketch.CopyVersions
)

// vs makes the writing of a version short that is valid at all times; gone that of one that is gone, with the same fields.
func vs(stamp int, written string) api.Version {
	return api.Version{Stamp: stamp, Span: sp(api.MinTime, api.MaxTime), Fields: fs(written)}
}

func gone(stamp int, written string) api.Version {
	v := vs(stamp, written)
	v.Gone = true
	return v
}

// over makes the writing of a version short that is valid over a span.
func over(from, to, stamp int, written string) api.Version {
	v := vs(stamp, written)
	v.Span = sp(from, to)
	return v
}

// tagged answers a copy of the versions, with their places as IDs: so those that are the same otherwise are told apart.
func tagged(l []api.Version) []api.Version {
	var told []api.Version
	for i, v := range l {
		v.ID = i
		v.Fields = slices.Clone(v.Fields)
		told = append(told, v)
	}
	return told
}

// slowOrder puts the versions in order by the words of the chapter: each behind all whose stamps are not above its own.
func slowOrder(l []api.Version) []api.Version {
	var order []api.Version
	for _, v := range l {
		at := 0
		for i, w := range order {
			if w.Stamp <= v.Stamp {
				at = i + 1
			}
		}
		order = slices.Insert(order, at, v)
	}
	return order
}

// slowOf goes over the versions in order, and writes down what each sets that counts and that is meant.
func slowOf(l []api.Version, meant func(v api.Version) bool) []api.Field {
	var told []api.Field
	for _, v := range slowOrder(l) {
		for _, f := range v.Fields {
			if v.Gone || !meant(v) {
				continue
			}
			told = slices.DeleteFunc(told, func(g api.Field) bool { return g.Name == f.Name })
			told = append(told, f)
		}
	}
	slices.SortFunc(told, func(a, b api.Field) int { return strings.Compare(a.Name, b.Name) })
	return told
}

// all means all versions, and at those with right spans that have the time.
func all(api.Version) bool { return true }

func at(t int) func(v api.Version) bool {
	return func(v api.Version) bool {
		return v.Span.From >= -1<<40 && v.Span.To <= 1<<40 && v.Span.From < v.Span.To && v.Span.From <= t && t < v.Span.To
	}
}

// slowSetter looks from behind for one that counts and that has a field of that name.
func slowSetter(name string, l []api.Version) (int, bool) {
	order := slowOrder(l)
	for i := len(order) - 1; i >= 0; i-- {
		for _, f := range order[i].Fields {
			if f.Name == name && !order[i].Gone {
				return order[i].Stamp, true
			}
		}
	}
	return 0, false
}

// slowChanged asks both lists for each name that one of them has.
func slowChanged(a, b []api.Field) []string {
	var names []string
	for _, f := range slices.Concat(a, b) {
		x, hasX := field.Get(a, f.Name)
		y, hasY := field.Get(b, f.Name)
		if x != y || hasX != hasY {
			names = append(names, f.Name)
		}
	}
	slices.Sort(names)
	return slices.Compact(names)
}

// someNames are names, and texts that are none; some are asked for that no version has.
var (
	someNames = []string{"a", "b", "c", "a-", "", "B", "\xff", "a\x00"}
	askedFor  = append([]string{"d", "aa", "A", "\x00"}, someNames...)
	someInts  = []int{0, 1, -1, 2, 1<<61 - 1, -1 << 61, math.MaxInt, math.MinInt}
	someTimes = []int{api.MinTime - 1, api.MinTime, api.MinTime + 1, -1, 0, 1, 2, 3, 4, api.MaxTime - 1, api.MaxTime, api.MaxTime + 1, math.MinInt, math.MaxInt}
)

// someFields answers up to so many fields, in any order, with names twice and such as are none among them.
func someFields(r *rand.Rand, many int) []api.Field {
	var l []api.Field
	for range r.Intn(many + 1) {
		f := fl(someNames[r.Intn(3)], r.Intn(3))
		if r.Intn(4) == 0 {
			f.Name = someNames[r.Intn(len(someNames))]
		}
		if r.Intn(4) == 0 {
			f.Value = someInts[r.Intn(len(someInts))]
		}
		l = append(l, f)
	}
	return l
}

// someVersions answers up to so many versions of stamps below most, with any spans; some of them are gone.
func someVersions(r *rand.Rand, many, most int) []api.Version {
	var l []api.Version
	for i := range r.Intn(many + 1) {
		v := api.Version{ID: i, Stamp: r.Intn(most) - most/4, Entity: someNames[r.Intn(len(someNames))], Gone: r.Intn(4) == 0, Fields: someFields(r, 5)}
		if r.Intn(20) == 0 {
			v.Stamp = someInts[r.Intn(len(someInts))]
		}
		v.Span = sp(someTimes[r.Intn(len(someTimes))], someTimes[r.Intn(len(someTimes))])
		if r.Intn(2) == 0 {
			v.Span = sp(r.Intn(4), r.Intn(5))
		}
		l = append(l, v)
	}
	return l
}

func TestOrder(t *testing.T) {
	for _, c := range []struct {
		stamps, want []int // Where the versions stand, and then: the places at which they stood.
	}{
		{nil, nil},
		{[]int{}, nil},
		{[]int{1}, []int{0}},
		{[]int{0}, []int{0}},
		{[]int{1, 2, 3}, []int{0, 1, 2}},
		{[]int{3, 2, 1}, []int{2, 1, 0}},
		{[]int{2, 3, 1}, []int{2, 0, 1}},
		{[]int{10, 9, 100}, []int{1, 0, 2}},
		{[]int{7, 7}, []int{0, 1}},
		{[]int{7, 7, 7, 7}, []int{0, 1, 2, 3}},
		{[]int{2, 1, 2, 1}, []int{1, 3, 0, 2}},
		{[]int{1, 2, 2, 1, 3, 1}, []int{0, 3, 5, 1, 2, 4}},
		{[]int{0, -1, 1, -2}, []int{3, 1, 0, 2}},
		{[]int{math.MaxInt, math.MinInt, 0, math.MinInt, math.MaxInt}, []int{1, 3, 2, 0, 4}},
		{[]int{1 << 62, -1 << 62, math.MaxInt, math.MinInt}, []int{3, 1, 0, 2}},
		{[]int{api.MaxStamp, api.Forever, 1}, []int{2, 0, 1}},
	} {
		var l, want []api.Version
		for i, n := range c.stamps {
			l = append(l, api.Version{ID: i, Stamp: n, Entity: "e", Fields: fs("b1 a2 b3"), Gone: i%2 == 1, Span: sp(i, 2)})
		}
		for _, i := range c.want {
			want = append(want, l[i])
		}
		was := copied(l)
		if got := state.Order(l...); !sameVersions(got, want) {
			t.Errorf("Order of the stamps %v = %v", c.stamps, got)
		}
		if !sameVersions(l, was) {
			t.Errorf("Order of the stamps %v wrote to them: %v", c.stamps, l)
		}
	}
}

// TestOrderOfMany: many of one stamp stay as they stood, as many as there are.
func TestOrderOfMany(t *testing.T) {
	r := rand.New(rand.NewSource(81))
	for _, many := range []int{13, 50, 300, 2000} {
		var l []api.Version
		for i := range many {
			l = append(l, api.Version{ID: i, Stamp: r.Intn(7)})
		}
		if got := state.Order(l...); !sameVersions(got, slowOrder(l)) {
			t.Errorf("Order of %d versions is another one", many)
		}
	}
}

func TestOf(t *testing.T) {
	for _, c := range []struct {
		l    []api.Version
		want string
	}{
		{nil, ""},
		{[]api.Version{}, ""},
		{[]api.Version{{}}, ""},
		{[]api.Version{vs(1, "")}, ""},
		{[]api.Version{vs(1, "a1 b2")}, "a1 b2"},
		{[]api.Version{vs(2, "a5"), vs(1, "a3 b4")}, "a5 b4"},
		{[]api.Version{vs(1, "a3 b4"), vs(2, "a5")}, "a5 b4"},
		{[]api.Version{vs(1, "a1"), vs(2, "b2"), vs(3, "c3")}, "a1 b2 c3"},
		{[]api.Version{vs(3, "c1"), vs(2, "b2"), vs(1, "a3")}, "a3 b2 c1"},
		{[]api.Version{vs(10, "a1"), vs(9, "a2")}, "a1"},
		{[]api.Version{vs(1, "a7"), vs(2, "a0")}, "a0"},
		{[]api.Version{vs(1, "a7"), vs(2, "")}, "a7"},
		// Of one stamp the one that stands behind is the newer one.
		{[]api.Version{vs(1, "a1"), vs(1, "a2")}, "a2"},
		{[]api.Version{vs(1, "a2 b2"), vs(1, "a1"), vs(0, "a9 b9 c9")}, "a1 b2 c9"},
		// Some that are gone.
		{[]api.Version{gone(1, "a1")}, ""},
		{[]api.Version{gone(1, "a1"), gone(2, "b2")}, ""},
		{[]api.Version{vs(1, "a1"), gone(2, "a2 b2")}, "a1"},
		{[]api.Version{gone(3, "a3"), vs(1, "a1"), gone(2, "a2"), vs(0, "a0 b0")}, "a1 b0"},
		{[]api.Version{gone(1, "a1 c1"), vs(2, "b2")}, "b2"},
		// Lists that are not right.
		{[]api.Version{vs(1, "b1 a2")}, "a2 b1"},
		{[]api.Version{vs(1, "a1 a2 a3")}, "a3"},
		{[]api.Version{vs(2, "b1 a2 b3"), vs(1, "c1 b5 c2")}, "a2 b3 c2"},
		{[]api.Version{vs(1, "a1 B2 -3 01"), vs(2, "B4")}, "-3 01 B4 a1"},
		{[]api.Version{vs(1, "a1 b2 c3 d4 e5 f6 g7 h8 i9")}, "a1 b2 c3 d4 e5 f6 g7 h8 i9"},
		// Stamps that no version has.
		{[]api.Version{vs(0, "a1"), vs(-1, "a2")}, "a1"},
		{[]api.Version{vs(math.MaxInt, "a1"), vs(math.MinInt, "a2")}, "a1"},
		{[]api.Version{vs(api.Forever, "a1"), vs(-1<<62, "a2 b2")}, "a1 b2"},
		// When they are valid does not count.
		{[]api.Version{over(5, 5, 1, "a1"), over(9, 3, 2, "b2"), over(math.MinInt, math.MaxInt, 3, "c3")}, "a1 b2 c3"},
	} {
		if got := state.Of(c.l...); !slices.Equal(got, fs(c.want)) {
			t.Errorf("Of(%v) = %v, not %s", c.l, got, c.want)
		}
	}
}

// TestAt asks of each span at its ends, and just beyond them.
func TestAt(t *testing.T) {
	for _, c := range []struct {
		from, to int
		has, not []int
	}{
		{0, 1, []int{0}, []int{-1, 1}},
		{3, 7, []int{3, 4, 6}, []int{2, 7, 0, -3}},
		{-7, -3, []int{-7, -4}, []int{-8, -3, 3, 7}},
		{-5, 5, []int{-5, 0, 4}, []int{-6, 5}},
		{api.MinTime, api.MinTime + 1, []int{api.MinTime}, []int{api.MinTime - 1, api.MinTime + 1, math.MinInt, math.MaxInt}},
		{api.MaxTime - 1, api.MaxTime, []int{api.MaxTime - 1}, []int{api.MaxTime - 2, api.MaxTime, math.MaxInt, math.MinInt}},
		{api.MinTime, api.MaxTime, []int{api.MinTime, 0, api.MaxTime - 1}, []int{api.MinTime - 1, api.MaxTime, api.MaxTime + 1, math.MinInt, math.MaxInt}},
		// Spans that are not right have no time, wherever it lies.
		{3, 3, nil, []int{2, 3, 4}},
		{0, 0, nil, []int{-1, 0, 1}},
		{7, 3, nil, []int{2, 3, 5, 6, 7}},
		{api.MinTime - 1, 5, nil, []int{api.MinTime - 1, api.MinTime, 0, 4, 5}},
		{-5, api.MaxTime + 1, nil, []int{-6, -5, 0, api.MaxTime - 1, api.MaxTime}},
		{api.MinTime - 1, api.MaxTime + 1, nil, []int{api.MinTime - 1, api.MinTime, 0, api.MaxTime}},
		{math.MinInt, math.MaxInt, nil, []int{math.MinInt, -1, 0, 1, math.MaxInt - 1, math.MaxInt}},
		{math.MaxInt, math.MinInt, nil, []int{math.MinInt, -1, 0, 1, math.MaxInt}},
		{api.MaxTime, api.MaxTime + 5, nil, []int{api.MaxTime, api.MaxTime + 1}},
		{api.MinTime - 5, api.MinTime, nil, []int{api.MinTime - 5, api.MinTime - 1}},
	} {
		l := []api.Version{over(c.from, c.to, 2, "a2"), vs(1, "b1"), over(-9, 9, 3, "c3")}
		for i, times := range [][]int{c.has, c.not} {
			for _, n := range times {
				want := ""
				if i == 0 {
					want = "a2"
				}
				if n >= api.MinTime && n < api.MaxTime {
					want += " b1"
				}
				if n >= -9 && n < 9 {
					want += " c3"
				}
				if got := state.At(n, l...); !slices.Equal(got, fs(want)) {
					t.Errorf("At(%d) of the span from %d to %d = %v, not %s", n, c.from, c.to, got, want)
				}
			}
		}
	}
}

func TestAtOfSeveral(t *testing.T) {
	l := []api.Version{
		over(4, 8, 2, "a2 b2"),
		over(0, 6, 1, "a1 c1"),
		{Stamp: 5, Span: sp(0, 100), Fields: fs("a9 z9"), Gone: true},
		over(5, 7, 2, "b5 b6"),
		over(8, 4, 9, "a9 z9"),
		over(6, 6, 9, "a9 z9"),
	}
	for n, want := range []string{"a1 c1", "a1 c1", "a1 c1", "a1 c1", "a2 b2 c1", "a2 b6 c1", "a2 b6", "a2 b2", "", ""} {
		if got := state.At(n, l...); !slices.Equal(got, fs(want)) {
			t.Errorf("At(%d) = %v, not %s", n, got, want)
		}
	}
	for _, none := range [][]api.Version{nil, {}, {{}}, {gone(1, "a1")}} {
		if got := state.At(0, none...); len(got) != 0 {
			t.Errorf("At(0) of %v = %v", none, got)
		}
	}
}

func TestSetter(t *testing.T) {
	for _, c := range []struct {
		name string
		l    []api.Version
		want int
		ok   bool
	}{
		{"a", nil, 0, false},
		{"", nil, 0, false},
		{"a", []api.Version{}, 0, false},
		{"a", []api.Version{{}}, 0, false},
		{"", []api.Version{{}}, 0, false},
		{"a", []api.Version{vs(2, "a5"), vs(1, "a3 b4")}, 2, true},
		{"b", []api.Version{vs(2, "a5"), vs(1, "a3 b4")}, 1, true},
		{"c", []api.Version{vs(2, "a5"), vs(1, "a3 b4")}, 0, false},
		{"", []api.Version{vs(2, "a5"), vs(1, "a3 b4")}, 0, false},
		{"A", []api.Version{vs(2, "a5"), vs(1, "a3 b4")}, 0, false},
		{"aa", []api.Version{vs(2, "a5"), vs(1, "a3 b4")}, 0, false},
		{"a", []api.Version{vs(1, "a1"), vs(2, "a2"), vs(3, "a3")}, 3, true},
		{"a", []api.Version{vs(3, "a1"), vs(2, "a2"), vs(1, "a3")}, 3, true},
		{"a", []api.Version{vs(1, "a1"), vs(3, "a2"), vs(2, "a3")}, 3, true},
		{"a", []api.Version{vs(1, "a1"), vs(3, "b2"), vs(2, "a3")}, 2, true},
		{"a", []api.Version{vs(1, "a0")}, 1, true},
		{"a", []api.Version{vs(10, "a0"), vs(9, "a0")}, 10, true},
		// Some that are gone.
		{"a", []api.Version{gone(1, "a1")}, 0, false},
		{"a", []api.Version{vs(1, "a1"), gone(2, "a2")}, 1, true},
		{"a", []api.Version{gone(3, "a1"), vs(1, "a1"), gone(2, "a2"), vs(0, "a2")}, 1, true},
		{"b", []api.Version{vs(1, "a1"), gone(2, "b2")}, 0, false},
		{"a", []api.Version{gone(2, "a1"), vs(2, "a2")}, 2, true},
		// Stamps that stand twice.
		{"a", []api.Version{vs(2, "a1"), vs(2, "a2")}, 2, true},
		{"a", []api.Version{vs(2, "a1"), vs(2, "b2"), vs(1, "a2")}, 2, true},
		{"b", []api.Version{vs(2, "a1"), vs(2, "b2"), vs(1, "b1")}, 2, true},
		// Names that stand twice, and that are none.
		{"a", []api.Version{vs(1, "a1 a2"), vs(2, "b1 b2")}, 1, true},
		{"b", []api.Version{vs(1, "a1 b1 a2"), vs(3, "b1 a1 b2"), vs(2, "b4 b4")}, 3, true},
		{"B", []api.Version{vs(1, "B1"), vs(2, "b2")}, 1, true},
		{"", []api.Version{{Stamp: 4, Fields: []api.Field{fl("", 0)}}, vs(5, "a1")}, 4, true},
		{"long-long-name", []api.Version{{Stamp: 4, Fields: []api.Field{fl("long-long-name", 0)}}}, 4, true},
		// Stamps that no version has: 0 may be one that is there.
		{"a", []api.Version{vs(0, "a1")}, 0, true},
		{"a", []api.Version{vs(-5, "a1"), vs(-7, "a2")}, -5, true},
		{"a", []api.Version{vs(-7, "a1"), vs(-5, "a2"), vs(0, "b1")}, -5, true},
		{"a", []api.Version{vs(math.MinInt, "a1")}, math.MinInt, true},
		{"a", []api.Version{vs(math.MinInt, "a1"), vs(math.MaxInt, "a1")}, math.MaxInt, true},
		{"a", []api.Version{vs(math.MinInt, "a1"), gone(math.MaxInt, "a1")}, math.MinInt, true},
		// When they are valid does not count.
		{"a", []api.Version{over(5, 5, 1, "a1"), over(9, 3, 2, "a2")}, 2, true},
	} {
		if got, ok := state.Setter(c.name, c.l...); got != c.want || ok != c.ok {
			t.Errorf("Setter(%q) of %v = %d, %v", c.name, c.l, got, ok)
		}
	}
}

func TestChanged(t *testing.T) {
	for _, c := range []struct{ a, b, want string }{
		{"", "", ""},
		{"a1", "a1", ""},
		{"a1 b2", "a1 b2", ""},
		{"a1", "a2", "a"},
		{"a1 b2 c3", "a1 b5 c3", "b"},
		{"a1 b2 c3", "a2 b3 c4", "a b c"},
		{"a1", "", "a"},
		{"a1 b2 c3", "", "a b c"},
		{"a1 b2", "a1 c2", "b c"},
		{"a1 c1", "b1", "a b c"},
		{"a1", "b1", "a b"},
		{"a1 b2", "b2", "a"},
		{"b2", "a1 b2 c3", "a c"},
		// A name with the value 0 is not one that is missing.
		{"a0", "", "a"},
		{"a0", "a0", ""},
		{"a0 b1", "b1", "a"},
		{"a0", "b0", "a b"},
		{"a0", "a1", "a"},
		{"a1", "a-1", "a"},
		{"a9223372036854775807", "a-9223372036854775808", "a"},
		{"a-9223372036854775808", "a-9223372036854775808", ""},
		// Names twice: the first value counts.
		{"a1 a2", "a1", ""},
		{"a1 a2", "a1 a3", ""},
		{"a1 a2", "a2", "a"},
		{"a1 a2", "a2 a1", "a"},
		{"a1 a2", "", "a"},
		{"a0 a2", "a0", ""},
		{"a0 a2", "a2 a0", "a"},
		{"a1 b1 a2 b2", "b1 b2 a2 a1", "a"},
		{"a1 a1 a1", "a2 a2", "a"},
		// Names that don't rise.
		{"b1 a1", "a1 b1", ""},
		{"c1 b1 a1", "", "a b c"},
		{"c1 b1 a1", "a2 b2 c2", "a b c"},
		{"c1 a1", "d1 b1", "a b c d"},
		// Names that are none.
		{"A1 -1 01", "a1 -2 01", "- A a"},
	} {
		for _, pair := range [][2]string{{c.a, c.b}, {c.b, c.a}} {
			got := state.Changed(fs(pair[0]), fs(pair[1]))
			if !slices.Equal(got, strings.Fields(c.want)) {
				t.Errorf("Changed(%s, %s) = %v, not %s", pair[0], pair[1], got, c.want)
			}
		}
	}
	// An empty list is the same as none; the empty text may be a name, and names rise byte by byte.
	if got := state.Changed([]api.Field{}, nil); len(got) != 0 {
		t.Errorf("Changed of none = %q", got)
	}
	odd := []api.Field{fl("b", 1), fl("ä", 1), fl("aa", 1), fl("", 0), fl("a-", 1), fl("B", 1), fl("a\x00", 1), fl("a", 1), fl("\xff", 1)}
	want := []string{"", "B", "a", "a\x00", "a-", "aa", "b", "ä", "\xff"}
	for _, none := range [][]api.Field{nil, {}} {
		if got := state.Changed(odd, none); !slices.Equal(got, want) {
			t.Errorf("Changed(%v, none) = %q", odd, got)
		}
		if got := state.Changed(none, odd); !slices.Equal(got, want) {
			t.Errorf("Changed(none, %v) = %q", odd, got)
		}
	}
}

// each hands out all lists of up to n of the fields, in any order and the same ones among them.
func each(n int, fields []api.Field, told func(l []api.Field)) {
	var grow func(l []api.Field)
	grow = func(l []api.Field) {
		told(l)
		if len(l) == n {
			return
		}
		for _, f := range fields {
			grow(append(slices.Clone(l), f))
		}
	}
	grow(nil)
}

// TestChangedOfAllShort holds all pairs of short lists of a few fields against the words of the chapter.
func TestChangedOfAllShort(t *testing.T) {
	var lists [][]api.Field
	each(3, []api.Field{fl("a", 0), fl("a", 1), fl("b", 0), fl("b", 2), fl("", 0)}, func(l []api.Field) { lists = append(lists, l) })
	for _, a := range lists {
		for _, b := range lists {
			if got := state.Changed(a, b); !slices.Equal(got, slowChanged(a, b)) {
				t.Fatalf("Changed(%v, %v) = %q", a, b, got)
			}
		}
	}
	r := rand.New(rand.NewSource(82))
	for range 20_000 {
		a, b := someFields(r, 12), someFields(r, 12)
		if r.Intn(3) == 0 { // Nearly the same.
			b = append(slices.Clone(a), someFields(r, 1)...)
		}
		if got := state.Changed(a, b); !slices.Equal(got, slowChanged(a, b)) {
			t.Fatalf("Changed(%v, %v) = %q", a, b, got)
		}
	}
}

// faultOf holds all that is told of versions against the words of the chapter.
func faultOf(l []api.Version) error {
	was := copied(l)
	if got := state.Order(l...); !sameVersions(got, slowOrder(l)) {
		return fmt.Errorf("Order(%v) = %v", l, got)
	}
	if got := state.Of(l...); !slices.Equal(got, slowOf(l, all)) {
		return fmt.Errorf("Of(%v) = %v, not %v", l, got, slowOf(l, all))
	}
	for _, n := range someTimes {
		if got := state.At(n, l...); !slices.Equal(got, slowOf(l, at(n))) {
			return fmt.Errorf("At(%d) of %v = %v, not %v", n, l, got, slowOf(l, at(n)))
		}
	}
	for _, name := range askedFor {
		want, has := slowSetter(name, l)
		if got, ok := state.Setter(name, l...); got != want || ok != has {
			return fmt.Errorf("Setter(%q) of %v = %d, %v, not %d, %v", name, l, got, ok, want, has)
		}
	}
	if !sameVersions(l, was) {
		return fmt.Errorf("%v was written to: %v", was, l)
	}
	return nil
}

// TestOfAllShort goes over all lists of up to three versions of few stamps, gone or not, with few fields, and over many longer ones.
func TestOfAllShort(t *testing.T) {
	var kinds []api.Version
	for _, stamp := range []int{1, 2} {
		for _, fields := range []string{"", "a1", "a2 b1", "b3 a4 b5"} {
			kinds = append(kinds, over(0, 2, stamp, fields), gone(stamp, fields), over(1, 3, stamp, fields))
		}
	}
	var grow func(l []api.Version)
	grow = func(l []api.Version) {
		if fault := faultOf(tagged(l)); fault != nil {
			t.Fatal(fault)
		}
		if len(l) == 3 {
			return
		}
		for _, v := range kinds {
			grow(append(slices.Clone(l), v))
		}
	}
	grow(nil)
}

func TestOfMany(t *testing.T) {
	r := rand.New(rand.NewSource(83))
	for range 5000 {
		for _, most := range []int{1, 3, 8, 1000} {
			if fault := faultOf(someVersions(r, 10, most)); fault != nil {
				t.Fatal(fault)
			}
		}
	}
	for range 20 {
		if fault := faultOf(someVersions(r, 200, 40)); fault != nil {
			t.Fatal(fault)
		}
	}
}

// unlike answers versions of which no two have one stamp.
func unlike(r *rand.Rand, many int) []api.Version {
	l := someVersions(r, many, 1)
	for i, stamp := range r.Perm(len(l)) {
		l[i].Stamp = stamp*3 - 5
	}
	return l
}

// TestAnyOrder: versions of unlike stamps make the same fields, however they stand.
func TestAnyOrder(t *testing.T) {
	r := rand.New(rand.NewSource(84))
	for range 3000 {
		l := unlike(r, 8)
		want := state.Of(l...)
		for range 5 {
			mixed := copied(l)
			r.Shuffle(len(mixed), func(i, k int) { mixed[i], mixed[k] = mixed[k], mixed[i] })
			if got := state.Of(mixed...); !slices.Equal(got, want) {
				t.Fatalf("Of(%v) = %v; of %v it is %v", l, want, mixed, got)
			}
		}
		if got := state.Of(state.Order(l...)...); !slices.Equal(got, want) {
			t.Fatalf("Of(%v) = %v; in order it is %v", l, want, got)
		}
	}
	// Of one stamp it is to be seen which one stands behind.
	a, b := vs(1, "a1"), vs(1, "a2")
	if slices.Equal(state.Of(a, b), state.Of(b, a)) {
		t.Error("how versions of one stamp stand does not count")
	}
}

// TestNewest: each field that versions make has the value of the version that Setter tells, and all others have no setter.
func TestNewest(t *testing.T) {
	r := rand.New(rand.NewSource(85))
	for range 10_000 {
		l := unlike(r, 8)
		made := state.Of(l...)
		for _, f := range made {
			stamp, ok := state.Setter(f.Name, l...)
			i := slices.IndexFunc(l, func(v api.Version) bool { return v.Stamp == stamp })
			if !ok || i < 0 || l[i].Gone {
				t.Fatalf("Setter(%q) of %v = %d, %v", f.Name, l, stamp, ok)
			}
			if value, has := field.Get(field.Over(l[i].Fields), f.Name); value != f.Value || !has {
				t.Fatalf("Of(%v) has %v, but the version %d has %d", l, f, stamp, value)
			}
		}
		for _, name := range askedFor {
			_, has := field.Get(made, name)
			if _, ok := state.Setter(name, l...); ok != has {
				t.Fatalf("Setter(%q) of %v tells %v", name, l, ok)
			}
		}
	}
}

// TestOfManyAndWide: many versions, and wide lists, are gone over as any others.
func TestOfManyAndWide(t *testing.T) {
	const many = 20_000
	var l []api.Version
	var wide, other []api.Field
	for i := range many {
		name := fmt.Sprintf("n%05d", i)
		l = append(l, over(i, i+10, many-i, "a"+fmt.Sprint(i)))
		wide = append(wide, fl(name, i))
		other = append(other, fl(name, i+i%2))
	}
	if got := state.Of(l...); !slices.Equal(got, fs("a0")) {
		t.Errorf("Of many = %v", got)
	}
	if got := state.At(many, l...); !slices.Equal(got, fs("a"+fmt.Sprint(many-9))) {
		t.Errorf("At of many = %v", got)
	}
	if got, ok := state.Setter("a", l...); got != many || !ok {
		t.Errorf("Setter of many = %d, %v", got, ok)
	}
	if got := state.Order(l...); len(got) != many || got[0].Stamp != 1 || got[many-1].Stamp != many {
		t.Errorf("Order of many has %d", len(got))
	}
	slices.Reverse(other)
	if got := state.Changed(wide, other); len(got) != many/2 || !slices.IsSorted(got) || got[0] != "n00001" {
		t.Errorf("Changed of wide lists has %d", len(got))
	}
	if got := state.Of(api.Version{Stamp: 2, Fields: other[5000:]}, api.Version{Stamp: 1, Fields: wide}); len(got) != many || got[1].Value != 2 || got[many-1].Value != many-1 {
		t.Errorf("Of wide lists has %d", len(got))
	}
}

// TestAnswersAreNew: what is written to an answer, or to an argument, is seen nowhere else.
func TestAnswersAreNew(t *testing.T) {
	l := []api.Version{vs(2, "b2 a2"), vs(1, "a1 c1"), gone(3, "d3")}
	was := copied(l)
	first, second := state.Order(l...), state.Order(l...)
	want := copied(first)
	for i := range first {
		first[i].Stamp, first[i].Entity = 99, "x"
		for k := range first[i].Fields {
			first[i].Fields[k] = fl("x", 99)
		}
		_ = append(first[i].Fields, fl("y", 98))
	}
	if !sameVersions(second, want) || !sameVersions(l, was) {
		t.Errorf("what was written to an answer of Order is seen: %v, %v", second, l)
	}
	made, at := state.Of(l...), state.At(0, l...)
	changed := state.Changed(l[0].Fields, l[1].Fields)
	for i := range l {
		l[i].Gone = true
		for k := range l[i].Fields {
			l[i].Fields[k] = fl("x", 99)
		}
	}
	if !sameVersions(second, want) || !slices.Equal(made, fs("a2 b2 c1")) || !slices.Equal(at, made) || !slices.Equal(changed, []string{"a", "b", "c"}) {
		t.Errorf("what was written to arguments is seen: %v, %v, %v, %v", second, made, at, changed)
	}
	made[0] = fl("y", 98)
	if !slices.Equal(at, fs("a2 b2 c1")) {
		t.Errorf("two answers share: %v", at)
	}
}

// TestArgumentsStay: no call writes to what it is given, nor behind the end of it.
func TestArgumentsStay(t *testing.T) {
	room := []api.Version{vs(3, "b1 a2 b3"), vs(1, "c1"), vs(2, ""), vs(0, "z9")}
	room[1].Fields = append(make([]api.Field, 0, 9), room[1].Fields...)
	was := copied(room)
	l := room[:3]
	state.Order(l...)
	state.Of(l...)
	state.At(0, l...)
	state.Setter("a", l...)
	state.Changed(l[0].Fields[:2], l[1].Fields)
	if !sameVersions(room, was) {
		t.Errorf("an argument was written to: %v", room)
	}
	if spare := room[1].Fields[:2][1]; spare != (api.Field{}) {
		t.Errorf("behind the end of fields stands %v", spare)
	}
}

// TestSameAnswersAgain: a map in between is not seen in what is told.
func TestSameAnswersAgain(t *testing.T) {
	r := rand.New(rand.NewSource(86))
	l, a, b := someVersions(r, 40, 30), someFields(r, 30), someFields(r, 30)
	made, changed := state.Of(l...), state.Changed(a, b)
	for range 200 {
		if !slices.Equal(state.Of(l...), made) || !slices.Equal(state.Changed(a, b), changed) {
			t.Fatal("another answer, asked again")
		}
	}
}

// TestEndsEverywhere: every call ends and none panics, at all arguments.
func TestEndsEverywhere(t *testing.T) {
	long := strings.Repeat("a", 1<<16)
	var l []api.Version
	for _, n := range someInts {
		for _, m := range someInts {
			l = append(l, api.Version{ID: n, Stamp: m, Entity: long, Span: sp(n, m), Fields: []api.Field{fl(long, n), fl("", m)}, Gone: n > m})
		}
	}
	l = append(l, api.Version{}, api.Version{Fields: []api.Field{}}, api.Version{Fields: make([]api.Field, 1000)})
	for i := range l {
		for _, some := range [][]api.Version{l[i:], l[:i], l[i : i+1]} {
			if fault := faultOf(some); fault != nil {
				t.Fatal("a list of extreme versions tells otherwise")
			}
			state.Setter(long, some...)
			state.Changed(l[i].Fields, l[len(l)-1-i].Fields)
			state.Changed(nil, l[i].Fields)
		}
	}
}
