package bucket_test

import (
	"fmt"
	"math"
	"math/rand"
	"slices"
	"strings"
	"testing"

	"erratum/api"
	"erratum/bucket"
	"erratum/sketch"
)

// vs makes the writing of a version short, and gone answers it as one that is gone.
func vs(from, to int, written string) api.Version { return over(sp(from, to), fs(written)...) }

func over(a api.Span, l ...api.Field) api.Version { return api.Version{Span: a, Fields: l} }

func gone(v api.Version) api.Version {
	v.Gone = true
	return v
}

// list and totals make the writing of lists short.
func list(l ...api.Version) []api.Version { return l }

func totals(l ...bucket.Total) []bucket.Total { return l }

func tot(name string, k, count, sum int) bucket.Total {
	return bucket.Total{Name: name, Bucket: k, Count: count, Sum: sum}
}

// made answers new totals of a width that is one.
func made(wide int) *bucket.Totals {
	b, e := bucket.New(wide)
	if b == nil || e != api.OK {
		panic(fmt.Sprint("New of ", wide, ": ", e))
	}
	return b
}

// step is versions that are put together, or dropped.
type step struct {
	drop bool
	l    []api.Version
}

func put(l ...api.Version) step { return step{l: l} }

func drop(l ...api.Version) step { return step{drop: true, l: l} }

// do does the steps one behind the other.
func do(b *bucket.Totals, steps ...step) api.Errno {
	for _, s := range steps {
		turn := b.Put
		if s.drop {
			turn = b.Drop
		}
		if e := turn(s.l...); e != api.OK {
			return e
		}
	}
	return api.OK
}

// slowGet goes over all that was put and dropped, for one name and one bucket.
func slowGet(wide int, steps []step, name string, k int) (int, int) {
	count, sum := 0, uint64(0)
	for _, s := range steps {
		for _, v := range s.l {
			if v.Gone || !right(v.Span) || slowFloor(v.Span.From, wide) != k {
				continue
			}
			for _, f := range v.Fields {
				switch {
				case f.Name != name:
				case s.drop:
					count, sum = count-1, sum-uint64(f.Value)
				default:
					count, sum = count+1, sum+uint64(f.Value)
				}
			}
		}
	}
	return count, int(sum)
}

// slowAll asks slowGet of all names and buckets that the versions may have.
func slowAll(wide int, steps []step) []bucket.Total {
	var names []string
	var buckets []int
	for _, s := range steps {
		for _, v := range s.l {
			if right(v.Span) {
				buckets = append(buckets, slowFloor(v.Span.From, wide))
			}
			for _, f := range v.Fields {
				names = append(names, f.Name)
			}
		}
	}
	slices.SortFunc(names, func(a, b string) int { return slices.Compare([]byte(a), []byte(b)) })
	slices.Sort(buckets)
	var all []bucket.Total
	for _, name := range slices.Compact(names) {
		for _, k := range slices.Compact(slices.Clone(buckets)) {
			if count, sum := slowGet(wide, steps, name, k); count != 0 || sum != 0 {
				all = append(all, tot(name, k, count, sum))
			}
		}
	}
	return all
}

// faultOfTotals tells what is wrong with what All and Get tell, where all that is not 0 is known; Get is asked beside that, too.
func faultOfTotals(b *bucket.Totals, want []bucket.Total) string {
	if got := b.All(); !slices.Equal(got, want) {
		return fmt.Sprint("All is ", got, ", not ", want)
	}
	for _, name := range []string{"", "a", "b", "ab", "z", "\x00", "\xff"} {
		for _, k := range append(slices.Clone(ends), -2, -109951162778, 109951162777) {
			want = append(want[:len(want):len(want)], tot(name, k, 0, 0))
		}
	}
	known := map[string]bucket.Total{}
	for _, w := range want {
		at := fmt.Sprint(w.Bucket, w.Name)
		if _, ok := known[at]; !ok {
			known[at] = w
		}
	}
	for _, w := range known {
		if count, sum := b.Get(w.Name, w.Bucket); count != w.Count || sum != w.Sum {
			return fmt.Sprintf("Get(%q, %d) is %d, %d, not %v", w.Name, w.Bucket, count, sum, w)
		}
	}
	return ""
}

func TestNew(t *testing.T) {
	for _, wide := range widths {
		b, e := bucket.New(wide)
		if b == nil || e != api.OK {
			t.Errorf("New(%d) = %v, %d", wide, b, e)
			continue
		}
		if fault := faultOfTotals(b, nil); fault != "" {
			t.Errorf("New(%d): %s", wide, fault)
		}
	}
	for _, wide := range none {
		if b, e := bucket.New(wide); b != nil || e != api.ErrArg {
			t.Errorf("New(%d) = %v, %d, not ErrArg", wide, b, e)
		}
	}
}

func TestTotals(t *testing.T) {
	const most, lowest = math.MaxInt, math.MinInt
	one := vs(3, 5, "a7")
	for _, c := range []struct {
		wide  int
		steps []step
		want  []bucket.Total
	}{
		// Nothing is put, or nothing that counts.
		{10, nil, nil},
		{10, []step{put()}, nil},
		{10, []step{drop()}, nil},
		{10, []step{put(vs(3, 5, ""))}, nil},
		{10, []step{drop(vs(3, 5, ""))}, nil},
		{10, []step{put(gone(one))}, nil},
		{10, []step{drop(gone(one))}, nil},
		{10, []step{put(gone(api.Version{}), api.Version{}, over(sp(3, 3), fl("a", 1)), over(sp(5, 3), fl("a", 1)))}, nil},
		{10, []step{put(over(sp(least-1, 5), fl("a", 1)), over(sp(5, end+1), fl("a", 1)), over(sp(end, end+1), fl("a", 1)))}, nil},
		// One version, and several, together and one behind the other.
		{10, []step{put(one)}, totals(tot("a", 0, 1, 7))},
		{10, []step{drop(one)}, totals(tot("a", 0, -1, -7))},
		{10, []step{put(one, one)}, totals(tot("a", 0, 2, 14))},
		{10, []step{put(one), put(one)}, totals(tot("a", 0, 2, 14))},
		{10, []step{drop(one, one), drop(one)}, totals(tot("a", 0, -3, -21))},
		{10, []step{put(one), drop(one, one)}, totals(tot("a", 0, -1, -7))},
		{10, []step{put(vs(0, 1, "a1"), vs(9, 10, "a2"), vs(10, 11, "a4"))}, totals(tot("a", 0, 2, 3), tot("a", 1, 1, 4))},
		{10, []step{put(vs(0, 1, "a1 b2")), drop(vs(4, 6, "b3 c5"))}, totals(tot("a", 0, 1, 1), tot("b", 0, 0, -1), tot("c", 0, -1, -5))},
		// Those among them that don't count are passed over.
		{10, []step{put(gone(one), one, over(sp(3, 3), fl("a", 1)), one, gone(one))}, totals(tot("a", 0, 2, 14))},
		// The bucket is that of a span's From, however far it goes.
		{10, []step{put(vs(9, 500, "a1"))}, totals(tot("a", 0, 1, 1))},
		{10, []step{put(vs(-1, 1<<40, "a1"), vs(-10, 0, "a2"), vs(-11, 0, "a4"))}, totals(tot("a", -2, 1, 4), tot("a", -1, 2, 3))},
		{10, []step{put(vs(least, end, "a1"), vs(end-1, end, "a2"))}, totals(tot("a", -109951162778, 1, 1), tot("a", 109951162777, 1, 2))},
		{1, []step{put(vs(least, end, "a1"), vs(end-1, end, "a2"), vs(0, 1, "a3"))}, totals(tot("a", least, 1, 1), tot("a", 0, 1, 3), tot("a", end-1, 1, 2))},
		{1 << 40, []step{put(vs(least, end, "a1"), vs(end-1, end, "a2"), vs(-1, 1, "a3"))}, totals(tot("a", -1, 2, 4), tot("a", 0, 1, 2))},
		// A name twice counts twice.
		{10, []step{put(vs(0, 1, "a1 a2"))}, totals(tot("a", 0, 2, 3))},
		{10, []step{put(vs(0, 1, "a1 b5 a1 a-4")), drop(vs(0, 1, "a3"))}, totals(tot("a", 0, 2, -5), tot("b", 0, 1, 5))},
		// One of both numbers is 0.
		{10, []step{put(vs(0, 1, "a0"))}, totals(tot("a", 0, 1, 0))},
		{10, []step{drop(vs(0, 1, "a0"))}, totals(tot("a", 0, -1, 0))},
		{10, []step{put(vs(0, 1, "a3 a-3"))}, totals(tot("a", 0, 2, 0))},
		{10, []step{put(vs(0, 1, "a3")), drop(vs(5, 6, "a5"))}, totals(tot("a", 0, 0, -2))},
		// Both are 0, and what is put behind that.
		{10, []step{put(one), drop(one)}, nil},
		{10, []step{drop(one), put(one)}, nil},
		{10, []step{put(one), drop(vs(0, 9, "a3")), put(vs(1, 2, "a1")), drop(vs(1, 2, "a5"))}, nil},
		{10, []step{put(vs(0, 1, "a0")), drop(vs(8, 9, "a0"))}, nil},
		{10, []step{put(one), drop(one), put(one)}, totals(tot("a", 0, 1, 7))},
		{10, []step{put(one), drop(one), drop(one), put(one), drop(one)}, totals(tot("a", 0, -1, -7))},
		{10, []step{put(one, vs(13, 15, "a1"), vs(3, 5, "b1")), drop(one)}, totals(tot("a", 1, 1, 1), tot("b", 0, 1, 1))},
		// Sums go on from the other end where an int ends.
		{10, []step{put(over(sp(0, 1), fl("a", most), fl("a", 1)))}, totals(tot("a", 0, 2, lowest))},
		{10, []step{put(over(sp(0, 1), fl("a", most), fl("a", most)))}, totals(tot("a", 0, 2, -2))},
		{10, []step{put(over(sp(0, 1), fl("a", lowest), fl("a", lowest)))}, totals(tot("a", 0, 2, 0))},
		{10, []step{put(over(sp(0, 1), fl("a", lowest), fl("a", -1)))}, totals(tot("a", 0, 2, most))},
		{10, []step{drop(over(sp(0, 1), fl("a", lowest)))}, totals(tot("a", 0, -1, lowest))},
		{10, []step{drop(over(sp(0, 1), fl("a", most), fl("a", 2)))}, totals(tot("a", 0, -2, most))},
		{10, []step{put(over(sp(0, 1), fl("a", lowest))), drop(over(sp(0, 1), fl("a", most)))}, totals(tot("a", 0, 0, 1))},
		// Names byte by byte, whatever they are, then buckets.
		{10, []step{put(over(sp(0, 1), fl("", 1), fl("b", 2), fl("B", 3), fl("\xff", 4), fl("\x00", 5), fl("ab", 6), fl("a", 7), fl("é", 8), fl("a\x00", 9)))}, totals(
			tot("", 0, 1, 1), tot("\x00", 0, 1, 5), tot("B", 0, 1, 3), tot("a", 0, 1, 7), tot("a\x00", 0, 1, 9),
			tot("ab", 0, 1, 6), tot("b", 0, 1, 2), tot("é", 0, 1, 8), tot("\xff", 0, 1, 4))},
		{10, []step{put(vs(100, 101, "a1 b1"), vs(-100, 0, "b2"), vs(0, 9, "b3"), vs(-1, 2, "a4 b4"), vs(20, 21, "a5"))}, totals(
			tot("a", -1, 1, 4), tot("a", 2, 1, 5), tot("a", 10, 1, 1),
			tot("b", -10, 1, 2), tot("b", -1, 1, 4), tot("b", 0, 1, 3), tot("b", 10, 1, 1))},
		{1, []step{put(vs(5, 6, "a1"), vs(-5, 6, "a1"))}, totals(tot("a", -5, 1, 1), tot("a", 5, 1, 1))},
	} {
		b := made(c.wide)
		if e := do(b, c.steps...); e != api.OK {
			t.Errorf("%v: %d", c.steps, e)
		}
		if fault := faultOfTotals(b, c.want); fault != "" {
			t.Errorf("%v, in buckets of %d: %s", c.steps, c.wide, fault)
		}
		if slow := slowAll(c.wide, c.steps); !slices.Equal(slow, c.want) {
			t.Errorf("%v, in buckets of %d: the slow one tells %v", c.steps, c.wide, slow)
		}
	}
}

// TestOtherParts: a version counts whatever its ID, its Stamp and its Entity are.
func TestOtherParts(t *testing.T) {
	b := made(10)
	for _, n := range ends {
		b.Put(api.Version{ID: n, Stamp: -n, Entity: strings.Repeat("e", 30), Span: sp(0, 1), Fields: fs("a1")})
	}
	if fault := faultOfTotals(b, totals(tot("a", 0, len(ends), len(ends)))); fault != "" {
		t.Error(fault)
	}
}

// TestStrangeSpans: no version counts whose span is not right.
func TestStrangeSpans(t *testing.T) {
	for _, wide := range widths {
		b := made(wide)
		for _, a := range strange {
			if e := do(b, put(over(a, fl("a", 1))), put(over(a, fl("b", 2))), drop(over(a, fl("a", 3)))); e != api.OK {
				t.Errorf("%v: %d", a, e)
			}
		}
		if fault := faultOfTotals(b, nil); fault != "" {
			t.Error(fault)
		}
	}
}

// TestNil: of totals that no call made nothing is told, and nothing is put to them.
func TestNil(t *testing.T) {
	one := vs(3, 5, "a7")
	for name, b := range map[string]*bucket.Totals{"nil": nil, "new": new(bucket.Totals), "literal": {}} {
		for _, l := range [][]api.Version{nil, {}, {one}, {one, gone(one), {}}} {
			if e := b.Put(l...); e != api.ErrNil {
				t.Errorf("Put of %v to %s: %d, not ErrNil", l, name, e)
			}
			if e := b.Drop(l...); e != api.ErrNil {
				t.Errorf("Drop of %v from %s: %d, not ErrNil", l, name, e)
			}
		}
		if fault := faultOfTotals(b, nil); fault != "" {
			t.Errorf("%s: %s", name, fault)
		}
	}
}

func pick[T any](r *rand.Rand, l []T) T { return l[r.Intn(len(l))] }

// someVersions answers versions of few names, of which some don't count.
func someVersions(r *rand.Rand, many int) []api.Version {
	names := []string{"", "a", "ab", "b", "\x00", "\xff", "é", "a\x00"}
	values := []int{0, 1, -1, 2, -2, 7, math.MaxInt, math.MinInt, 1 << 62, -1 << 62}
	times := []int{least - 1, least, least + 1, -30, -11, -10, -1, 0, 1, 9, 10, 25, end - 1, end, end + 1}
	var l []api.Version
	for range many {
		v := over(sp(pick(r, times), pick(r, times)))
		if r.Intn(3) > 0 {
			v.Span.To = v.Span.From + 1
		}
		for range r.Intn(4) {
			v.Fields = append(v.Fields, fl(pick(r, names), pick(r, values)))
		}
		v.Gone = r.Intn(6) == 0
		l = append(l, v)
	}
	return l
}

// TestTotalsOfMany holds what is told behind each of many steps against all that was put and dropped.
func TestTotalsOfMany(t *testing.T) {
	r := rand.New(rand.NewSource(4))
	for range 150 {
		wide := pick(r, widths)
		b := made(wide)
		var steps []step
		for range 12 {
			s := step{drop: r.Intn(3) == 0, l: someVersions(r, r.Intn(5))}
			if len(steps) > 0 && r.Intn(3) == 0 {
				s = pick(r, steps)
				s.drop = !s.drop
			}
			steps = append(steps, s)
			if e := do(b, s); e != api.OK {
				t.Fatal(steps, e)
			}
			if fault := faultOfTotals(b, slowAll(wide, steps)); fault != "" {
				t.Fatalf("%v, in buckets of %d: %s", steps, wide, fault)
			}
		}
	}
}

// orders tells all orders of the first n numbers.
func orders(n int, told func(order []int)) {
	order := make([]int, 0, n)
	var grow func()
	grow = func() {
		if len(order) == n {
			told(order)
			return
		}
		for i := range n {
			if !slices.Contains(order, i) {
				order = append(order, i)
				grow()
				order = order[:len(order)-1]
			}
		}
	}
	grow()
}

// TestBack: when all that was put is dropped, in whichever order, All is empty, and it was not ahead of that.
func TestBack(t *testing.T) {
	l := list(vs(0, 5, "a1 b2"), vs(3, 4, "a1 b-2 a0"), over(sp(12, 13), fl("a", math.MinInt), fl("", math.MaxInt)), gone(vs(0, 1, "a1")), vs(-5, 1, "b2"), vs(5, 5, "c3"))
	orders(len(l), func(order []int) {
		b := made(10)
		if e := b.Put(l...); e != api.OK {
			t.Fatal(e)
		}
		left := slices.Clone(l)
		for _, i := range order {
			if e := b.Drop(l[i]); e != api.OK {
				t.Fatal(e)
			}
			left[i].Gone = true
			if got, want := b.All(), slowAll(10, []step{put(left...)}); !slices.Equal(got, want) {
				t.Fatalf("%v are dropped in the order %v: %v are left, not %v", l, order, got, want)
			}
		}
		if fault := faultOfTotals(b, nil); fault != "" {
			t.Fatalf("in the order %v: %s", order, fault)
		}
	})
}

// TestBackOfMany: put and dropped in whichever order, and in whichever groups, some being dropped ahead of being put.
func TestBackOfMany(t *testing.T) {
	r := rand.New(rand.NewSource(5))
	for range 500 {
		l := someVersions(r, 1+r.Intn(30))
		var steps []step
		for _, v := range l {
			steps = append(steps, put(v), drop(v))
		}
		r.Shuffle(len(steps), func(i, k int) { steps[i], steps[k] = steps[k], steps[i] })
		var groups []step
		for _, s := range steps {
			if last := len(groups) - 1; last >= 0 && groups[last].drop == s.drop && r.Intn(2) == 0 {
				groups[last].l = append(groups[last].l, s.l...)
				continue
			}
			groups = append(groups, s)
		}
		b := made(pick(r, widths))
		if e := do(b, groups...); e != api.OK {
			t.Fatal(e)
		}
		if fault := faultOfTotals(b, nil); fault != "" {
			t.Fatalf("%v: %s", groups, fault)
		}
	}
}

// TestApart: what is put to totals is not seen in others.
func TestApart(t *testing.T) {
	one, two, three := made(10), made(10), made(1)
	one.Put(vs(15, 16, "a1"))
	three.Put(vs(15, 16, "a2"))
	two.Drop(vs(25, 26, "a3"))
	for i, c := range []struct {
		b    *bucket.Totals
		want bucket.Total
	}{
		{one, tot("a", 1, 1, 1)},
		{two, tot("a", 2, -1, -3)},
		{three, tot("a", 15, 1, 2)},
	} {
		if fault := faultOfTotals(c.b, totals(c.want)); fault != "" {
			t.Errorf("the %d-th: %s", i, fault)
		}
	}
}

// TestAllIsNew: what is written to an answer is seen neither in the totals nor in another answer.
func TestAllIsNew(t *testing.T) {
	b := made(10)
	b.Put(vs(0, 1, "a1 b2 c3"))
	want := totals(tot("a", 0, 1, 1), tot("b", 0, 1, 2), tot("c", 0, 1, 3))
	one, two := b.All(), b.All()
	for i := range one {
		one[i] = tot("x", 7, 7, 7)
	}
	_ = append(one[:1], tot("y", 8, 8, 8))
	_ = append(one, tot("z", 9, 9, 9))
	if !slices.Equal(two, want) {
		t.Errorf("what is written to an answer is seen in another one: %v", two)
	}
	if fault := faultOfTotals(b, want); fault != "" {
		t.Errorf("what is written to an answer is seen in the totals: %s", fault)
	}
	b.Put(vs(0, 1, "a5 d6"))
	if !slices.Equal(two, want) {
		t.Errorf("what is put later is seen in an answer: %v", two)
	}
}

// TestArgumentsStay: no call writes to its versions, nor keeps them, so that what is written to them later is not seen.
func TestArgumentsStay(t *testing.T) {
	l := list(vs(25, 30, "b2 a1 b3"), gone(vs(0, 1, "a1")), vs(5, 3, "c1"), vs(0, 4, "a4"))
	kept := sketch.CopyVersions(l)
	b := made(10)
	b.Put(l...)
	b.Put(l...)
	b.Drop(l...)
	if !sketch.SameVersions(l, kept) {
		t.Errorf("the versions are now %v", l)
	}
	for i := range l {
		l[i].Span, l[i].Gone = sp(50, 51), true
		for k := range l[i].Fields {
			l[i].Fields[k] = fl("z", 99)
		}
	}
	if fault := faultOfTotals(b, totals(tot("a", 0, 1, 4), tot("a", 2, 1, 1), tot("b", 2, 2, 5))); fault != "" {
		t.Errorf("what is written to the versions is seen: %s", fault)
	}
}

// TestAnyOrder: what is told hangs on what was put, not on the order of it, nor on how often it is asked.
func TestAnyOrder(t *testing.T) {
	r := rand.New(rand.NewSource(6))
	l := someVersions(r, 60)
	first := made(10)
	first.Put(l...)
	want := first.All()
	for range 200 {
		r.Shuffle(len(l), func(i, k int) { l[i], l[k] = l[k], l[i] })
		b := made(10)
		b.Put(l...)
		if one, two := b.All(), b.All(); !slices.Equal(one, want) || !slices.Equal(two, want) {
			t.Fatalf("%v, then %v, not %v", one, two, want)
		}
	}
}

// TestEndsEverywhere asks every call at the ends of all that may be given to it: none panics, and what is told is right.
func TestEndsEverywhere(t *testing.T) {
	for _, wide := range ends {
		b, _ := bucket.New(wide)
		for _, from := range ends {
			bucket.Floor(from, wide)
			bucket.Span(from, wide)
			for _, to := range ends {
				if e := do(b, put(over(sp(from, to), fl("a", from), fl("a", to))), drop(over(sp(from, to), fl("a", to)))); (e == api.OK) != (b != nil) {
					t.Fatal(e)
				}
				if got, e := bucket.Over(sp(from, to), wide, 3); e == api.OK && (len(got) < 1 || len(got) > 3) {
					t.Fatal(got)
				}
				// One bucket for each time would be more than there is room for.
				if wide > 1<<30 {
					if got, e := bucket.Over(sp(from, to), wide, math.MaxInt); e == api.OK && len(got) < 1 {
						t.Fatal(got)
					}
				}
			}
			b.Get("a", from)
		}
		b.All()
	}
}

// TestManyTotals: long lists, and totals of many places, end too.
func TestManyTotals(t *testing.T) {
	const many = 100000
	b := made(3)
	var l []api.Version
	for i := range many {
		l = append(l, over(sp(3*i-many, 3*i+1), fl("a", i), fl("b", 1)))
	}
	b.Put(l...)
	all := b.All()
	if len(all) != 2*many || all[0].Name != "a" || all[many].Name != "b" || all[many].Bucket != all[0].Bucket || all[many-1].Sum != many-1 {
		t.Fatalf("%d totals", len(all))
	}
	long := over(sp(0, 1))
	for range many {
		long.Fields = append(long.Fields, fl("c", 2))
	}
	b.Put(long)
	if count, sum := b.Get("c", 0); count != many || sum != 2*many {
		t.Fatal(count, sum)
	}
	slices.Reverse(l)
	b.Drop(l...)
	b.Drop(long)
	if fault := faultOfTotals(b, nil); fault != "" {
		t.Fatal(fault)
	}
}
