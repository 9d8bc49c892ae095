package chain_test

import (
	"math"
	"math/rand"
	"slices"
	"testing"

	"erratum/api"
	"erratum/chain"
	"erratum/sketch"
	"erratum/version"
)

// Short names of what these tests are written with.
var (
	fl, sp, same, copied = sketch.Field, sketch.Span, sketch.SameVersion, sketch.CopyVersions
	vs, gone, row        = sketch.Version, sketch.Gone, sketch.Row
	sameRows             = sketch.SameRows
)

// list makes the writing of a list of versions short, and spans that of a list of spans.
func list(l ...api.Version) []api.Version { return l }

func spans(l ...api.Span) []api.Span { return l }

// day is a right span, and ever the longest one; nine are more fields than a version may have.
var day, ever, nine = sketch.Day(), sketch.Ever(), sketch.Nine()

// slowCheck tells by the words of the chapter what is wrong first with versions.
func slowCheck(l []api.Version) api.Errno {
	if len(l) == 0 {
		return api.ErrNone
	}
	for i, v := range l {
		if e := version.Right(v); e != api.OK {
			return e
		}
		if i == 0 {
			if v.Stamp != v.ID {
				return api.ErrArg
			}
			continue
		}
		if l[i-1].Gone {
			return api.ErrGone
		}
		if v.ID != l[0].ID {
			return api.ErrArg
		}
		if v.Entity != l[0].Entity {
			return api.ErrForm
		}
		if v.Stamp <= l[i-1].Stamp {
			return api.ErrOrder
		}
	}
	return api.OK
}

// slowAt looks for the version that stands at a stamp by the words of the chapter.
func slowAt(at int, l []api.Version) (api.Version, bool) {
	var among []api.Version
	for _, v := range l {
		if v.Stamp <= at {
			among = append(among, v)
		}
	}
	if len(among) == 0 {
		return api.Version{}, false
	}
	greatest := among[0].Stamp
	for _, v := range among {
		greatest = max(greatest, v.Stamp)
	}
	last := api.Version{}
	for _, v := range among {
		if v.Stamp == greatest {
			last = v
		}
	}
	return last, true
}

// slowRows makes rows by the words of the chapter.
func slowRows(l []api.Version) ([]api.Row, api.Errno) {
	if e := slowCheck(l); e != api.OK {
		return nil, e
	}
	var rows []api.Row
	for i, v := range l {
		until := 1 << 62
		if i+1 < len(l) {
			until = l[i+1].Stamp
		}
		rows = append(rows, row(v, until))
	}
	return rows, api.OK
}

// slowSpans answers the right spans that count of the versions that stand at both stamps: nothing, if these are of one Stamp.
func slowSpans(a, b int, l []api.Version) []api.Span {
	v, inA := slowAt(a, l)
	w, inB := slowAt(b, l)
	if !inA && !inB || inA && inB && v.Stamp == w.Stamp {
		return nil
	}
	var counting []api.Span
	add := func(v api.Version, in bool) {
		if in && !v.Gone && v.Span.From >= -1<<40 && v.Span.To <= 1<<40 && v.Span.From < v.Span.To {
			counting = append(counting, v.Span)
		}
	}
	add(v, inA)
	add(w, inB)
	return counting
}

// slowChanged puts at most two spans together, by the words of chapter 3: those that touch are one.
func slowChanged(a, b int, l []api.Version) []api.Span {
	counting := slowSpans(a, b, l)
	if len(counting) < 2 {
		return counting
	}
	x, y := counting[0], counting[1]
	if y.From < x.From {
		x, y = y, x
	}
	if y.From <= x.To {
		return []api.Span{sp(x.From, max(x.To, y.To))}
	}
	return []api.Span{x, y}
}

// pick answers one of the things.
func pick[T any](r *rand.Rand, l []T) T { return l[r.Intn(len(l))] }

// Numbers, entities, spans and fields of which any versions are made, right and wrong.
var (
	someInts     = []int{math.MinInt, -1 << 62, -1, 0, 1, 2, 3, 4, 1<<40 - 2, 1<<40 - 1, 1 << 40, 1<<62 - 1, 1 << 62, math.MaxInt}
	someEntities = []string{"", "e", "f", "\x00", sketch.MostBytes, sketch.TooLong}
	someSpans    = []api.Span{{}, day, sp(-5, -2), sp(-2, 4), sp(9, 12), sp(11, 14), ever, sp(3, 3), sp(9, 0), sp(-1<<40-1, 0), sp(0, 1<<40+1), sp(math.MinInt, math.MaxInt), sp(math.MaxInt, math.MinInt)}
	someFields   = [][]api.Field{nil, {}, {fl("a", 1)}, {fl("a", 0), fl("b", -7)}, nine, {fl("A", 1)}, {fl("b", 1), fl("a", 1)}}
)

// someVersion answers any version, of which some are right, and some are wrong in one way or several.
func someVersion(r *rand.Rand) api.Version {
	return api.Version{
		ID: pick(r, someInts), Stamp: pick(r, someInts), Entity: pick(r, someEntities),
		Span: pick(r, someSpans), Fields: slices.Clone(pick(r, someFields)), Gone: r.Intn(3) == 0,
	}
}

// someVersions answers any versions, of which several may have one Stamp.
func someVersions(r *rand.Rand) []api.Version {
	var l []api.Version
	for range r.Intn(7) {
		l = append(l, someVersion(r))
	}
	return l
}

// someChain answers a chain of one version or several, as many as six, of which the last one may be gone.
func someChain(r *rand.Rand) []api.Version {
	id := 1 + r.Intn(1<<39)>>r.Intn(40)
	entity := pick(r, []string{"e", "f", "\x00", sketch.MostBytes})
	var l []api.Version
	stamp := id
	for range 1 + r.Intn(6) {
		from := r.Intn(20) - 10
		v := vs(id, stamp, entity, sp(from, from+1+r.Intn(9)), slices.Clone(pick(r, [][]api.Field{nil, {}, {fl("a", 1)}, {fl("a", 0), fl("b", -7)}}))...)
		l = append(l, v)
		stamp += 1 + r.Intn(1<<36)>>r.Intn(37)
	}
	if len(l) > 1 && r.Intn(2) == 0 {
		l[len(l)-1] = gone(id, l[len(l)-1].Stamp, entity)
	}
	return l
}

// spoilt answers versions that are a chain but for one thing or several; or that are one still.
func spoilt(r *rand.Rand) []api.Version {
	l := someChain(r)
	for range r.Intn(4) {
		v := &l[r.Intn(len(l))]
		switch r.Intn(8) {
		case 0:
			v.ID = max(1, v.ID+r.Intn(3)-1)
		case 1:
			v.Stamp = pick(r, l).Stamp + r.Intn(3) - 1
		case 2:
			v.Entity = pick(r, someEntities)
		case 3:
			v.Span = pick(r, someSpans)
		case 4:
			v.Fields = slices.Clone(pick(r, someFields))
		case 5:
			*v = gone(v.ID, v.Stamp, v.Entity)
		case 6:
			*v = someVersion(r)
		case 7:
			r.Shuffle(len(l), func(i, k int) { l[i], l[k] = l[k], l[i] })
		}
	}
	return l
}

// three answers a chain of which none of the versions is gone; its ID is 5.
func three() []api.Version {
	return list(vs(5, 5, "e", day, fl("a", 1)), vs(5, 8, "e", sp(2, 3)), vs(5, 20, "e", ever, fl("a", 2)))
}

// changed answers that chain, with something done to the version at a place.
func changed(place int, do func(v *api.Version)) []api.Version {
	l := three()
	do(&l[place])
	return l
}

func TestCheckOfChains(t *testing.T) {
	most := 1<<40 - 1
	for _, l := range [][]api.Version{
		list(vs(1, 1, "e", day)),
		list(vs(most, most, sketch.MostBytes, ever, nine[:8]...)),
		list(vs(1, 1, "e", day), vs(1, 2, "e", day)),
		list(vs(1, 1, "\x00", day), vs(1, most, "\x00", sp(-9, -8), fl("b", 1))),
		list(vs(1, 1, "e", day), gone(1, 2, "e")),
		list(vs(7, 7, "e", day), gone(7, most, "e")),
		three(),
		list(vs(5, 5, "e", day), vs(5, 6, "e", day), vs(5, 7, "e", ever), gone(5, 9, "e")),
	} {
		if e := chain.Check(l...); e != api.OK {
			t.Errorf("Check(%#v) = %d", l, e)
		}
	}
}

func TestCheckOfWrongOnes(t *testing.T) {
	for _, c := range []struct {
		l    []api.Version
		want api.Errno
	}{
		{nil, api.ErrNone},
		{[]api.Version{}, api.ErrNone},
		// One that may not be.
		{list(api.Version{}), api.ErrArg},
		{list(gone(5, 5, "e")), api.ErrForm},
		{changed(0, func(v *api.Version) { v.Span = sp(3, 3) }), api.ErrSpan},
		{changed(1, func(v *api.Version) { v.Span = sp(3, 3) }), api.ErrSpan},
		{changed(2, func(v *api.Version) { v.Span = sp(3, 3) }), api.ErrSpan},
		{changed(0, func(v *api.Version) { v.Fields = nine }), api.ErrBig},
		{changed(1, func(v *api.Version) { v.Fields = nine }), api.ErrBig},
		{changed(2, func(v *api.Version) { v.Fields = nine }), api.ErrBig},
		{changed(0, func(v *api.Version) { v.Entity = "" }), api.ErrArg},
		{changed(1, func(v *api.Version) { v.Entity = "" }), api.ErrArg},
		{changed(2, func(v *api.Version) { v.Entity = sketch.TooLong }), api.ErrBig},
		{changed(0, func(v *api.Version) { v.Stamp = 0 }), api.ErrArg},
		{changed(1, func(v *api.Version) { v.Stamp = 1 << 40 }), api.ErrArg},
		{changed(2, func(v *api.Version) { v.Gone = true }), api.ErrForm},
		// A first one whose Stamp is not its ID.
		{list(vs(1, 2, "e", day)), api.ErrArg},
		{list(gone(1, 2, "e")), api.ErrArg},
		{changed(0, func(v *api.Version) { v.Stamp = 6 }), api.ErrArg},
		{changed(0, func(v *api.Version) { v.ID = 4 }), api.ErrArg},
		{three()[1:], api.ErrArg},
		// One behind one that is gone.
		{changed(1, func(v *api.Version) { *v = gone(5, 8, "e") }), api.ErrGone},
		{append(three(), gone(5, 21, "e"), vs(5, 22, "e", day)), api.ErrGone},
		{append(three(), gone(5, 21, "e"), gone(5, 22, "e")), api.ErrGone},
		{append(three(), gone(5, 21, "e"), vs(22, 22, "e", day)), api.ErrGone},
		// Another ID.
		{changed(1, func(v *api.Version) { v.ID = 4 }), api.ErrArg},
		{changed(1, func(v *api.Version) { v.ID = 6 }), api.ErrArg},
		{changed(1, func(v *api.Version) { v.ID = 8 }), api.ErrArg},
		{changed(2, func(v *api.Version) { v.ID = 1 }), api.ErrArg},
		{changed(2, func(v *api.Version) { v.ID = 20 }), api.ErrArg},
		// Another entity.
		{changed(0, func(v *api.Version) { v.Entity = "f" }), api.ErrForm},
		{changed(1, func(v *api.Version) { v.Entity = "E" }), api.ErrForm},
		{changed(2, func(v *api.Version) { v.Entity = "e\x00" }), api.ErrForm},
		{append(three(), gone(5, 21, "f")), api.ErrForm},
		// A Stamp that is not above the one ahead's.
		{changed(1, func(v *api.Version) { v.Stamp = 5 }), api.ErrOrder},
		{changed(1, func(v *api.Version) { v.Stamp = 20 }), api.ErrOrder},
		{changed(2, func(v *api.Version) { v.Stamp = 8 }), api.ErrOrder},
		{changed(2, func(v *api.Version) { v.Stamp = 7 }), api.ErrOrder},
		{changed(2, func(v *api.Version) { v.Stamp = 5 }), api.ErrOrder},
		{append(three(), gone(5, 20, "e")), api.ErrOrder},
		{append(three(), gone(5, 6, "e")), api.ErrOrder},
	} {
		if e := chain.Check(c.l...); e != c.want {
			t.Errorf("Check(%#v) = %d, not %d", c.l, e, c.want)
		}
	}
}

// fault is something wrong with a version at a place, and the error that tells it.
type fault struct {
	told api.Errno
	do   func(l []api.Version, place int)
}

// faults are those of the versions behind the first one, in the order in which they are told; each can be done beside all others.
var faults = []fault{
	{api.ErrSpan, func(l []api.Version, place int) { l[place].Span = sp(9, 3) }},
	{api.ErrGone, func(l []api.Version, place int) { l[place-1] = gone(5, l[place-1].Stamp, "e") }},
	{api.ErrArg, func(l []api.Version, place int) { l[place].ID = 4 }},
	{api.ErrForm, func(l []api.Version, place int) { l[place].Entity = "f" }},
	{api.ErrOrder, func(l []api.Version, place int) { l[place].Stamp = l[place-1].Stamp }},
}

// TestCheckOrder does all of one version's faults beside each other, so that the first of them is told.
func TestCheckOrder(t *testing.T) {
	for place := 2; place < 5; place++ {
		for some := range 1 << len(faults) {
			l := append(three(), vs(5, 30, "e", day), vs(5, 40, "e", day))
			want := api.OK
			for i, f := range slices.Backward(faults) {
				if some>>i&1 == 1 {
					f.do(l, place)
					want = f.told
				}
			}
			if e := chain.Check(l...); e != want {
				t.Errorf("Check(%#v) = %d, not %d", l, e, want)
			}
		}
	}
	// What may not be is told ahead of a first one's Stamp, too, and that ahead of all that is behind it.
	for _, c := range []struct {
		l    []api.Version
		want api.Errno
	}{
		{list(vs(4, 5, "e", sp(3, 3))), api.ErrSpan},
		{list(vs(4, 5, "e", day, nine...)), api.ErrBig},
		{list(vs(6, 5, "", sp(3, 3))), api.ErrArg},
		{list(vs(4, 5, "e", day), vs(4, 6, "e", sp(3, 3))), api.ErrArg},
		{list(gone(4, 5, "e"), vs(4, 6, "f", day)), api.ErrArg},
	} {
		if e := chain.Check(c.l...); e != c.want {
			t.Errorf("Check(%#v) = %d, not %d", c.l, e, c.want)
		}
	}
}

// TestCheckGoesFromVersionToVersion does faults to two versions, so that the first one's is told, whatever the other one's are.
func TestCheckGoesFromVersionToVersion(t *testing.T) {
	for i, f := range faults {
		for k, g := range faults {
			l := append(three(), vs(5, 30, "e", day), vs(5, 40, "e", day), vs(5, 50, "e", day))
			g.do(l, 5)
			f.do(l, 2)
			if e := chain.Check(l...); e != f.told {
				t.Errorf("Check with the fault %d ahead of %d = %d, not %d", i, k, e, f.told)
			}
		}
	}
}

// TestCheckOfAllPairs goes over all versions made of some small numbers, each alone, and each behind each.
func TestCheckOfAllPairs(t *testing.T) {
	var all []api.Version
	for id := range 4 {
		for stamp := range 4 {
			for _, entity := range []string{"", "e", "f"} {
				all = append(all, vs(id, stamp, entity, day), vs(id, stamp, entity, sp(3, 3)), gone(id, stamp, entity))
			}
		}
	}
	for _, v := range all {
		if e := chain.Check(v); e != slowCheck(list(v)) {
			t.Fatalf("Check(%#v) = %d, not %d", v, e, slowCheck(list(v)))
		}
		for _, w := range all {
			if e := chain.Check(v, w); e != slowCheck(list(v, w)) {
				t.Fatalf("Check(%#v, %#v) = %d, not %d", v, w, e, slowCheck(list(v, w)))
			}
		}
	}
}

// TestCheckAndRowsOfMany holds Check and Rows of chains, of what was one, and of any versions against the words of the chapter.
func TestCheckAndRowsOfMany(t *testing.T) {
	r := rand.New(rand.NewSource(101))
	right := 0
	for range 100_000 {
		l := spoilt(r)
		if r.Intn(10) == 0 {
			l = someVersions(r)
		}
		want, wantErr := slowRows(l)
		if e := chain.Check(l...); e != wantErr {
			t.Fatalf("Check(%#v) = %d, not %d", l, e, wantErr)
		}
		rows, e := chain.Rows(l...)
		if e != wantErr || !sameRows(rows, want) {
			t.Fatalf("Rows(%#v) = %#v, %d, not %#v, %d", l, rows, e, want, wantErr)
		}
		if e == api.OK {
			right++
		}
	}
	if right < 20_000 || right > 80_000 {
		t.Errorf("%d of them are chains: too few of the others, or of these", right)
	}
}

func TestRows(t *testing.T) {
	example := list(vs(1, 1, "e", day), gone(1, 4, "e"))
	for _, c := range []struct {
		l    []api.Version
		want []api.Row
		e    api.Errno
	}{
		{example, []api.Row{row(example[0], 4), row(example[1], 1<<62)}, api.OK},
		{list(vs(1, 1, "e", day)), []api.Row{row(vs(1, 1, "e", day), 1<<62)}, api.OK},
		{three(), []api.Row{row(three()[0], 8), row(three()[1], 20), row(three()[2], 1<<62)}, api.OK},
		{list(vs(1, 1, "e", day), vs(1, 1<<40-1, "e", day)), []api.Row{row(vs(1, 1, "e", day), 1<<40-1), row(vs(1, 1<<40-1, "e", day), 1<<62)}, api.OK},
		{nil, nil, api.ErrNone},
		{three()[1:], nil, api.ErrArg},
		{changed(2, func(v *api.Version) { v.Stamp = 8 }), nil, api.ErrOrder},
		{changed(1, func(v *api.Version) { v.Entity = "f" }), nil, api.ErrForm},
		{changed(1, func(v *api.Version) { v.Span = sp(3, 3) }), nil, api.ErrSpan},
		{changed(1, func(v *api.Version) { *v = gone(5, 8, "e") }), nil, api.ErrGone},
		{changed(2, func(v *api.Version) { v.Fields = nine }), nil, api.ErrBig},
	} {
		rows, e := chain.Rows(c.l...)
		if e != c.e || !sameRows(rows, c.want) {
			t.Errorf("Rows(%#v) = %#v, %d, not %#v, %d", c.l, rows, e, c.want, c.e)
		}
		if e != api.OK && rows != nil {
			t.Errorf("Rows(%#v) answers %#v beside the error", c.l, rows)
		}
	}
}

func TestAt(t *testing.T) {
	// Two of them have the Stamp 8, and they do not rise.
	mixed := list(vs(9, 8, "a", day), vs(1, 3, "b", day), gone(2, 8, "c"), vs(4, -5, "d", sp(3, 0)), vs(1, 30, "e", day))
	ends := list(vs(1, math.MaxInt, "a", day), vs(2, math.MinInt, "b", day), vs(3, 0, "c", day))
	for _, c := range []struct {
		l    []api.Version
		at   int
		want int // the version's place, or -1
	}{
		{nil, 0, -1},
		{nil, math.MaxInt, -1},
		{nil, math.MinInt, -1},
		{three(), math.MinInt, -1},
		{three(), 0, -1},
		{three(), 4, -1},
		{three(), 5, 0},
		{three(), 6, 0},
		{three(), 7, 0},
		{three(), 8, 1},
		{three(), 9, 1},
		{three(), 19, 1},
		{three(), 20, 2},
		{three(), 21, 2},
		{three(), 1 << 62, 2},
		{three(), math.MaxInt, 2},
		{append(three(), gone(5, 21, "e")), 20, 2},
		{append(three(), gone(5, 21, "e")), 21, 3},
		{append(three(), gone(5, 21, "e")), 99, 3},
		{list(api.Version{}), 0, 0},
		{list(api.Version{}), -1, -1},
		{mixed, -6, -1},
		{mixed, -5, 3},
		{mixed, 2, 3},
		{mixed, 3, 1},
		{mixed, 7, 1},
		{mixed, 8, 2},
		{mixed, 29, 2},
		{mixed, 30, 4},
		{mixed[:1], 8, 0},
		{mixed[:2], 8, 0},
		{ends, math.MinInt, 1},
		{ends, math.MinInt + 1, 1},
		{ends, -1, 1},
		{ends, 0, 2},
		{ends, math.MaxInt - 1, 2},
		{ends, math.MaxInt, 0},
		{list(vs(1, 7, "a", day), vs(2, 7, "b", day), vs(3, 7, "c", day)), 7, 2},
		{list(vs(1, 7, "a", day), vs(2, 7, "b", day), vs(3, 6, "c", day)), 9, 1},
	} {
		want, there := api.Version{}, c.want >= 0
		if there {
			want = c.l[c.want]
		}
		if v, ok := chain.At(c.at, c.l...); !same(v, want) || ok != there {
			t.Errorf("At(%d, %#v) = %#v, %t, not %#v, %t", c.at, c.l, v, ok, want, there)
		}
	}
}

func TestAtOfMany(t *testing.T) {
	r := rand.New(rand.NewSource(102))
	for range 50_000 {
		l := someVersions(r)
		if r.Intn(3) == 0 {
			l = spoilt(r)
		}
		ats := slices.Clone(someInts)
		for _, v := range l {
			ats = append(ats, v.Stamp-1, v.Stamp, v.Stamp+1)
		}
		for _, at := range ats {
			want, there := slowAt(at, l)
			if v, ok := chain.At(at, l...); !same(v, want) || ok != there {
				t.Fatalf("At(%d, %#v) = %#v, %t, not %#v, %t", at, l, v, ok, want, there)
			}
		}
	}
}

func TestChanged(t *testing.T) {
	l := three() // 0 to 9 from 5 on, 2 to 3 from 8 on, ever from 20 on
	ended := append(list(vs(1, 1, "e", sp(2, 6)), vs(1, 3, "e", sp(8, 9))), gone(1, 5, "e"))
	two := func(a, b api.Span) []api.Version { return list(vs(1, 1, "e", a), vs(1, 2, "e", b)) }
	twins := list(vs(1, 4, "e", sp(0, 1)), vs(2, 4, "f", sp(5, 6)))
	strange := list(api.Version{ID: 1, Stamp: 3, Span: day, Gone: true}, vs(9, -4, "", sp(20, 30)), vs(7, 0, "e", sp(40, 50)))
	for _, c := range []struct {
		l    []api.Version
		a, b int
		want []api.Span
	}{
		{nil, 0, 0, nil},
		{nil, math.MinInt, math.MaxInt, nil},
		// The same version at both, or none.
		{l, 5, 5, nil},
		{l, 5, 7, nil},
		{l, 8, 19, nil},
		{l, 20, math.MaxInt, nil},
		{l, 0, 4, nil},
		{l, math.MinInt, 4, nil},
		{ended, 5, 99, nil},
		// None at one of them.
		{l, 0, 5, spans(day)},
		{l, 4, 8, spans(sp(2, 3))},
		{l, math.MinInt, math.MaxInt, spans(ever)},
		{ended, 0, 5, nil},
		// Another one at each of them.
		{l, 5, 8, spans(day)},
		{l, 7, 20, spans(ever)},
		{l, 8, 20, spans(ever)},
		{ended, 1, 3, spans(sp(2, 6), sp(8, 9))},
		{two(sp(8, 9), sp(2, 6)), 1, 2, spans(sp(2, 6), sp(8, 9))},
		{two(sp(2, 6), sp(7, 9)), 1, 2, spans(sp(2, 6), sp(7, 9))},
		{two(sp(2, 6), sp(6, 9)), 1, 2, spans(sp(2, 9))},
		{two(sp(6, 9), sp(2, 6)), 1, 2, spans(sp(2, 9))},
		{two(sp(2, 6), sp(4, 9)), 1, 2, spans(sp(2, 9))},
		{two(sp(4, 9), sp(2, 6)), 1, 2, spans(sp(2, 9))},
		{two(sp(2, 9), sp(4, 6)), 1, 2, spans(sp(2, 9))},
		{two(day, day), 1, 2, spans(day)},
		{two(sp(-1<<40, 0), sp(0, 1<<40)), 1, 2, spans(ever)},
		// One that is gone.
		{ended, 3, 5, spans(sp(8, 9))},
		{ended, 2, 6, spans(sp(2, 6))},
		// Spans that are not right.
		{two(sp(3, 3), day), 1, 2, spans(day)},
		{two(day, sp(9, 0)), 1, 2, spans(day)},
		{two(sp(-1<<40-1, 0), sp(0, 1<<40+1)), 1, 2, nil},
		{two(sp(math.MinInt, math.MaxInt), sp(2, 3)), 1, 2, spans(sp(2, 3))},
		{two(sp(3, 3), day), 0, 1, nil},
		// Two of one Stamp: the last one counts.
		{twins, 3, 4, spans(sp(5, 6))},
		{twins, 4, 5, nil},
		// Any versions: one that is gone may have a span, and any Stamp may be one's.
		{strange, 0, 3, spans(sp(40, 50))},
		{strange, -4, 3, spans(sp(20, 30))},
		{strange, -5, 3, nil},
		{strange, -5, 0, spans(sp(40, 50))},
		{strange, -1, 0, spans(sp(20, 30), sp(40, 50))},
		{strange[2:], -1, 0, spans(sp(40, 50))},
	} {
		if got := chain.Changed(c.a, c.b, c.l...); !slices.Equal(got, c.want) {
			t.Errorf("Changed(%d, %d, %#v) = %v, not %v", c.a, c.b, c.l, got, c.want)
		}
		if got := chain.Changed(c.b, c.a, c.l...); !slices.Equal(got, c.want) {
			t.Errorf("Changed(%d, %d, %#v) = %v, not %v", c.b, c.a, c.l, got, c.want)
		}
	}
}

func TestChangedOfMany(t *testing.T) {
	r := rand.New(rand.NewSource(103))
	for range 50_000 {
		l := someVersions(r)
		if r.Intn(2) == 0 {
			l = spoilt(r)
		}
		ats := slices.Clone(someInts)
		for _, v := range l {
			ats = append(ats, v.Stamp, v.Stamp+r.Intn(3)-1)
		}
		for range 20 {
			a, b := pick(r, ats), pick(r, ats)
			want := slowChanged(a, b, l)
			if got := chain.Changed(a, b, l...); !slices.Equal(got, want) {
				t.Fatalf("Changed(%d, %d, %#v) = %v, not %v", a, b, l, got, want)
			}
		}
	}
}

// TestOneRowHasEachStamp: of a chain's rows just one has a stamp from the ID on, the one that At tells; and none one below it.
func TestOneRowHasEachStamp(t *testing.T) {
	r := rand.New(rand.NewSource(104))
	for range 10_000 {
		l := someChain(r)
		rows, e := chain.Rows(l...)
		if e != api.OK {
			t.Fatalf("Rows(%#v) = %#v, %d", l, rows, e)
		}
		stamps := []int{1, l[0].ID + 1, 1<<40 - 1, 1<<62 - 1}
		for _, v := range l {
			stamps = append(stamps, v.Stamp-1, v.Stamp, v.Stamp+1, v.Stamp+r.Intn(1<<20))
		}
		for _, stamp := range stamps {
			var have []api.Row
			for _, w := range rows {
				if w.Version.Stamp <= stamp && stamp < w.Until {
					have = append(have, w)
				}
			}
			v, ok := chain.At(stamp, l...)
			if ok != (stamp >= l[0].ID) || ok != (len(have) == 1) || len(have) > 1 {
				t.Fatalf("%#v: %d rows have %d, At tells %#v, %t", l, len(have), stamp, v, ok)
			}
			if ok && (!same(have[0].Version, v) || version.Live(have[0], stamp) == v.Gone) {
				t.Fatalf("%#v: %#v has %d, At tells %#v", l, have[0], stamp, v)
			}
		}
	}
}

// TestBegins: what a chain begins with is a chain, whose At does not hang on versions above.
func TestBegins(t *testing.T) {
	r := rand.New(rand.NewSource(105))
	for range 10_000 {
		l := someChain(r)
		for n := 1; n <= len(l); n++ {
			if e := chain.Check(l[:n]...); e != api.OK {
				t.Fatalf("Check(%#v) = %d", l[:n], e)
			}
			until := 1 << 62
			if n < len(l) {
				until = l[n].Stamp
			}
			for _, at := range []int{0, l[0].ID, l[n-1].Stamp - 1, l[n-1].Stamp, until - 1} {
				v, inBegin := chain.At(at, l[:n]...)
				w, inAll := chain.At(at, l...)
				if !same(v, w) || inBegin != inAll {
					t.Fatalf("At(%d) of %d of %#v = %#v, %t, but of all %#v, %t", at, n, l, v, inBegin, w, inAll)
				}
			}
		}
	}
	// So it is of any versions, too.
	for range 20_000 {
		l, at := someVersions(r), pick(r, someInts)
		below := slices.DeleteFunc(copied(l), func(v api.Version) bool { return v.Stamp > at })
		v, inBelow := chain.At(at, below...)
		w, inAll := chain.At(at, l...)
		if !same(v, w) || inBelow != inAll {
			t.Fatalf("At(%d, %#v) = %#v, %t, but without those above %#v, %t", at, l, w, inAll, v, inBelow)
		}
	}
}

// TestAnswersAreNew writes to answers, and to arguments behind the call: neither is seen in the other, nor in another answer.
func TestAnswersAreNew(t *testing.T) {
	l := list(vs(1, 1, "e", day, fl("a", 1)), vs(1, 2, "e", sp(3, 5), fl("a", 2), fl("b", 3)))
	kept := copied(l)
	v, _ := chain.At(2, l...)
	rows, _ := chain.Rows(l...)
	again, _ := chain.Rows(l...)
	times := chain.Changed(1, 2, l...)
	v.Fields[0].Value = 70
	rows[0].Version.Fields[0].Value = 71
	rows[1].Version.Fields[1].Name = "z"
	rows[1].Until = 9
	times[0].From = 8
	if !slices.EqualFunc(l, kept, same) {
		t.Errorf("what was written to answers is in the argument: %#v", l)
	}
	if !same(again[0].Version, kept[0]) || !same(again[1].Version, kept[1]) || again[1].Until != 1<<62 {
		t.Errorf("what was written to an answer is in another one: %#v", again)
	}
	l[0].Fields[0].Value, l[1].Fields[0].Value, l[1].Stamp = 90, 91, 92
	if v.Fields[0].Value != 70 || again[0].Version.Fields[0].Value != 1 || again[1].Version.Fields[0].Value != 2 {
		t.Errorf("what was written to the argument is in answers: %#v, %#v", v, again)
	}
	if got := chain.Changed(1, 2, kept...); !slices.Equal(got, spans(day)) {
		t.Errorf("Changed = %v", got)
	}
	// No answer lets what is put behind its fields reach another one's.
	more := append(again[0].Version.Fields, fl("x", 1))
	if again[1].Version.Fields[0] != fl("a", 2) || len(more) != 2 {
		t.Errorf("rows share the room of their fields: %#v", again)
	}
}

// TestArgumentsStay holds that no call writes to its arguments, nor to the room behind them.
func TestArgumentsStay(t *testing.T) {
	r := rand.New(rand.NewSource(106))
	for range 2000 {
		l := spoilt(r)
		room := append(copied(l), vs(77, 78, "room", day, fl("r", 1)))
		kept := copied(room)
		short := room[:len(l)]
		at := pick(r, l).Stamp
		chain.Check(short...)
		chain.Rows(short...)
		chain.At(at, short...)
		chain.Changed(at, pick(r, l).Stamp, short...)
		if !slices.EqualFunc(room, kept, same) {
			t.Fatalf("%#v became %#v", kept, room)
		}
	}
}

// TestEndsEverywhere calls all with any versions (P1).
func TestEndsEverywhere(t *testing.T) {
	r := rand.New(rand.NewSource(107))
	for range 50_000 {
		l := someVersions(r)
		a, b := pick(r, someInts), pick(r, someInts)
		e := chain.Check(l...)
		rows, rowsErr := chain.Rows(l...)
		if e != rowsErr || (rows == nil) != (e != api.OK) {
			t.Fatalf("Check(%#v) = %d, Rows = %#v, %d", l, e, rows, rowsErr)
		}
		if v, ok := chain.At(a, l...); !ok && !same(v, api.Version{}) {
			t.Fatalf("At(%d, %#v) = %#v, and nothing", a, l, v)
		}
		chain.Changed(a, b, l...)
	}
	// Many of them, too.
	long := list(vs(1, 1, "e", day))
	for stamp := 2; stamp <= 100_000; stamp++ {
		long = append(long, vs(1, stamp, "e", day))
	}
	rows, e := chain.Rows(long...)
	if e != api.OK || len(rows) != len(long) || rows[0].Until != 2 || rows[len(rows)-1].Until != 1<<62 {
		t.Errorf("Rows of %d versions = %d rows, %d", len(long), len(rows), e)
	}
	if v, ok := chain.At(50_000, long...); v.Stamp != 50_000 || !ok {
		t.Errorf("At of %d versions = %#v, %t", len(long), v, ok)
	}
}
