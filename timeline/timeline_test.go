package timeline_test

import (
	"fmt"
	"math"
	"math/rand"
	"slices"
	"testing"

	"erratum/api"
	"erratum/sketch"
	"erratum/timeline"
)

// Short names of what these tests are written with.
var (
	fl, fs, sp, pc, line, words     = sketch.Field, sketch.Fields, sketch.Span, sketch.Piece, sketch.Line, sketch.Words
	right, has, slowRight, slowAt   = sketch.Right, sketch.Has, sketch.Timeline, sketch.At
	same, samePiece, copied, around = sketch.Same, sketch.SamePiece, sketch.Copy, sketch.Around
	sameVersions, copiedVersions    = sketch.SameVersions, sketch.CopyVersions
	slowMade                        = sketch.Made
	strange, ends, none             = sketch.Strange(), sketch.Ends(), sketch.NoTimelines()
	always                          = sp(-1<<40, 1<<40) // the span of all times
)

// vs makes the writing of a version short, and gone answers it as one that is gone.
func vs(stamp, from, to int, written string) api.Version {
	return api.Version{ID: 1, Stamp: stamp, Entity: "e", Span: sp(from, to), Fields: fs(written)}
}

func gone(v api.Version) api.Version {
	v.Gone = true
	return v
}

// list and pieces make the writing of lists short.
func list(l ...api.Version) []api.Version { return l }

func pieces(l ...api.Piece) []api.Piece { return l }

// spansIn answers all spans, right and not, that begin and end from one time to another one.
func spansIn(least, most int) []api.Span {
	var l []api.Span
	for from := least; from <= most; from++ {
		for to := least; to <= most; to++ {
			l = append(l, sp(from, to))
		}
	}
	return l
}

// faultOf tells what is wrong with a timeline that should have something at each time; what it should have changes at none but the times.
func faultOf(got []api.Piece, times []int, want func(t int) ([]api.Field, bool)) string {
	if !slowRight(got) {
		return fmt.Sprintf("%v is no timeline", got)
	}
	if at, unlike := sketch.Unlike(got, times, want); unlike {
		wanted, there := want(at)
		fields, ok := slowAt(got, at)
		return fmt.Sprintf("%v has at %d %v, %t, not %v, %t", got, at, fields, ok, wanted, there)
	}
	return ""
}

// faultOfMake holds Make of a span against the words of the chapter.
func faultOfMake(a api.Span, l []api.Version) string {
	times := []int{a.From, a.To}
	for _, v := range l {
		times = append(times, v.Span.From, v.Span.To)
	}
	fault := faultOf(timeline.Make(a, l...), times, func(t int) ([]api.Field, bool) {
		if !has(a, t) {
			return nil, false
		}
		return slowMade(l, t)
	})
	if fault != "" {
		return fmt.Sprintf("Make(%v, %v): %s", a, l, fault)
	}
	return ""
}

func TestMake(t *testing.T) {
	ten := sp(0, 10)
	for _, c := range []struct {
		a    api.Span
		l    []api.Version
		want []api.Piece
	}{
		{ten, list(vs(1, 0, 6, "a1"), vs(2, 4, 8, "a2")), pieces(pc(0, 4, "a1"), pc(4, 8, "a2"))},
		// None.
		{ten, nil, nil},
		{ten, list(), nil},
		{always, nil, nil},
		{ten, list(api.Version{}), nil},
		// One.
		{ten, list(vs(1, 2, 5, "a1 b2")), pieces(pc(2, 5, "a1 b2"))},
		{ten, list(vs(1, 0, 10, "a1")), pieces(pc(0, 10, "a1"))},
		{ten, list(vs(1, -3, 12, "a1")), pieces(pc(0, 10, "a1"))},
		{ten, list(vs(1, -3, 4, "a1")), pieces(pc(0, 4, "a1"))},
		{ten, list(vs(1, 7, 12, "a1")), pieces(pc(7, 10, "a1"))},
		{ten, list(vs(1, 9, 10, "a1")), pieces(pc(9, 10, "a1"))},
		{ten, list(vs(1, 10, 12, "a1")), nil},
		{ten, list(vs(1, -2, 0, "a1")), nil},
		{ten, list(vs(1, 20, 30, "a1")), nil},
		{sp(4, 5), list(vs(1, 0, 10, "a1")), pieces(pc(4, 5, "a1"))},
		{always, list(vs(1, -1<<40, 1<<40, "a1")), pieces(pc(-1<<40, 1<<40, "a1"))},
		// Several that lie apart, touch, overlap, hold one another, and are one.
		{ten, list(vs(1, 1, 3, "a1"), vs(2, 5, 7, "a1")), pieces(pc(1, 3, "a1"), pc(5, 7, "a1"))},
		{ten, list(vs(1, 5, 7, "a1"), vs(2, 1, 3, "a2")), pieces(pc(1, 3, "a2"), pc(5, 7, "a1"))},
		{ten, list(vs(1, 1, 3, "a1"), vs(2, 3, 7, "a2")), pieces(pc(1, 3, "a1"), pc(3, 7, "a2"))},
		{ten, list(vs(2, 1, 3, "a1"), vs(1, 3, 7, "a2")), pieces(pc(1, 3, "a1"), pc(3, 7, "a2"))},
		{ten, list(vs(2, 0, 6, "a1"), vs(1, 4, 8, "a2")), pieces(pc(0, 6, "a1"), pc(6, 8, "a2"))},
		{ten, list(vs(2, 4, 8, "a2"), vs(1, 0, 6, "a1")), pieces(pc(0, 4, "a1"), pc(4, 8, "a2"))},
		{ten, list(vs(1, 0, 6, "a1"), vs(2, 4, 8, "b2")), pieces(pc(0, 4, "a1"), pc(4, 6, "a1 b2"), pc(6, 8, "b2"))},
		{ten, list(vs(1, 0, 9, "a1"), vs(2, 3, 5, "a2")), pieces(pc(0, 3, "a1"), pc(3, 5, "a2"), pc(5, 9, "a1"))},
		{ten, list(vs(2, 0, 9, "a1"), vs(1, 3, 5, "a2")), pieces(pc(0, 9, "a1"))},
		{ten, list(vs(2, 0, 9, "a1"), vs(1, 3, 5, "a2 b2")), pieces(pc(0, 3, "a1"), pc(3, 5, "a1 b2"), pc(5, 9, "a1"))},
		{ten, list(vs(1, 2, 6, "a1 c1"), vs(2, 2, 6, "b2 c2")), pieces(pc(2, 6, "a1 b2 c2"))},
		{ten, list(vs(2, 2, 6, "a1 c1"), vs(1, 2, 6, "b2 c2")), pieces(pc(2, 6, "a1 b2 c1"))},
		{ten, list(vs(1, 2, 6, "a1"), vs(2, 2, 4, "a2")), pieces(pc(2, 4, "a2"), pc(4, 6, "a1"))},
		{ten, list(vs(1, 2, 6, "a1"), vs(2, 4, 6, "a2")), pieces(pc(2, 4, "a1"), pc(4, 6, "a2"))},
		{ten, list(vs(3, 0, 3, "a3"), vs(1, 0, 9, "a1"), vs(2, 2, 6, "a2")), pieces(pc(0, 3, "a3"), pc(3, 6, "a2"), pc(6, 9, "a1"))},
		// All cut by the span that is asked.
		{sp(4, 6), list(vs(1, 0, 5, "a1"), vs(2, 5, 9, "a2")), pieces(pc(4, 5, "a1"), pc(5, 6, "a2"))},
		{sp(5, 6), list(vs(1, 0, 5, "a1"), vs(2, 5, 9, "a2")), pieces(pc(5, 6, "a2"))},
		{sp(4, 5), list(vs(1, 0, 5, "a1"), vs(2, 5, 9, "a2")), pieces(pc(4, 5, "a1"))},
		{sp(3, 7), list(vs(1, 0, 4, "a1"), vs(2, 6, 9, "a1")), pieces(pc(3, 4, "a1"), pc(6, 7, "a1"))},
		// Some that are not of one Stamp, and some that are: of these the last one is on top.
		{ten, list(vs(7, 0, 6, "a1"), vs(7, 4, 8, "a2")), pieces(pc(0, 4, "a1"), pc(4, 8, "a2"))},
		{ten, list(vs(7, 4, 8, "a2"), vs(7, 0, 6, "a1")), pieces(pc(0, 6, "a1"), pc(6, 8, "a2"))},
		{ten, list(vs(7, 4, 8, "a2"), vs(7, 0, 6, "a1"), vs(7, 2, 5, "a3")), pieces(pc(0, 2, "a1"), pc(2, 5, "a3"), pc(5, 6, "a1"), pc(6, 8, "a2"))},
		{ten, list(vs(10, 0, 6, "a1"), vs(9, 4, 8, "a2")), pieces(pc(0, 6, "a1"), pc(6, 8, "a2"))},
		{ten, list(vs(0, 0, 6, "a1"), vs(-1, 4, 8, "a2")), pieces(pc(0, 6, "a1"), pc(6, 8, "a2"))},
		{ten, list(vs(math.MaxInt, 0, 6, "a1"), vs(math.MinInt, 4, 8, "a2")), pieces(pc(0, 6, "a1"), pc(6, 8, "a2"))},
		// Some that do not count.
		{ten, list(gone(vs(1, 2, 5, "a1"))), nil},
		{ten, list(vs(1, 2, 5, "a1"), gone(vs(2, 2, 5, "a2"))), pieces(pc(2, 5, "a1"))},
		{ten, list(vs(1, 2, 5, "a1"), gone(vs(2, 4, 8, "a2 b2")), vs(3, 5, 6, "a1")), pieces(pc(2, 6, "a1"))},
		{ten, list(vs(1, 2, 5, "a1"), vs(2, 3, 3, "a2"), vs(2, 4, 3, "a2")), pieces(pc(2, 5, "a1"))},
		{ten, list(vs(1, 2, 5, "a1"), vs(2, -1<<40-1, 9, "a2"), vs(2, 0, 1<<40+1, "a2"), vs(2, math.MinInt, math.MaxInt, "a2")), pieces(pc(2, 5, "a1"))},
		// Pieces that touch with the same fields are one.
		{ten, list(vs(1, 0, 6, "a1"), vs(2, 6, 8, "a1")), pieces(pc(0, 8, "a1"))},
		{ten, list(vs(1, 0, 6, "a1"), vs(2, 4, 8, "a1")), pieces(pc(0, 8, "a1"))},
		{ten, list(vs(2, 0, 6, "a1"), vs(1, 4, 8, "a1")), pieces(pc(0, 8, "a1"))},
		{ten, list(vs(1, 0, 3, "a1 b1"), vs(2, 3, 6, "a1"), vs(3, 3, 6, "b1")), pieces(pc(0, 6, "a1 b1"))},
		{ten, list(vs(1, 0, 3, "a0"), vs(2, 3, 6, "")), pieces(pc(0, 3, "a0"), pc(3, 6, ""))},
		{ten, list(vs(1, 0, 3, "a1"), vs(2, 3, 6, "b1")), pieces(pc(0, 3, "a1"), pc(3, 6, "b1"))},
		// Some that set no field.
		{ten, list(vs(1, 2, 5, "")), pieces(pc(2, 5, ""))},
		{ten, list(vs(1, 2, 5, ""), vs(2, 5, 7, "")), pieces(pc(2, 7, ""))},
		{ten, list(vs(1, 2, 5, ""), vs(2, 7, 8, "")), pieces(pc(2, 5, ""), pc(7, 8, ""))},
		{ten, list(vs(1, 0, 9, "a1"), vs(2, 3, 5, "")), pieces(pc(0, 9, "a1"))},
		{ten, list(vs(1, 0, 5, "a1"), vs(2, 3, 8, "")), pieces(pc(0, 5, "a1"), pc(5, 8, ""))},
		// Fields that are not right.
		{ten, list(vs(1, 0, 5, "b1 a2")), pieces(pc(0, 5, "a2 b1"))},
		{ten, list(vs(1, 0, 5, "a1 a2"), vs(2, 3, 8, "b1 a3 b2")), pieces(pc(0, 3, "a2"), pc(3, 8, "a3 b2"))},
		{ten, list(vs(1, 0, 9, "a1 a2"), vs(2, 3, 5, "a3 a4")), pieces(pc(0, 3, "a2"), pc(3, 5, "a4"), pc(5, 9, "a2"))},
		{ten, list(vs(1, 0, 9, "A1 -2"), api.Version{Span: sp(3, 5), Fields: []api.Field{fl("", 7)}}), pieces(pc(0, 3, "-2 A1"), api.Piece{Span: sp(3, 5), Fields: []api.Field{fl("", 7), fl("-", 2), fl("A", 1)}}, pc(5, 9, "-2 A1"))},
		{ten, list(vs(1, 0, 9, "a1 b1 c1 d1 e1 f1 g1 h1 i1")), pieces(pc(0, 9, "a1 b1 c1 d1 e1 f1 g1 h1 i1"))},
		// The least and greatest times.
		{always, list(vs(1, -1<<40, -1<<40+1, "a1"), vs(2, 1<<40-1, 1<<40, "a2")), pieces(pc(-1<<40, -1<<40+1, "a1"), pc(1<<40-1, 1<<40, "a2"))},
		{always, list(vs(1, -1<<40, 1<<40, "a1"), vs(2, 0, 1, "a2")), pieces(pc(-1<<40, 0, "a1"), pc(0, 1, "a2"), pc(1, 1<<40, "a1"))},
		{always, list(vs(1, -1<<40, 0, "a1"), vs(2, 0, 1<<40, "a1")), pieces(pc(-1<<40, 1<<40, "a1"))},
		{sp(-1<<40, -1<<40+1), list(vs(1, -1<<40, 1<<40, "a1")), pieces(pc(-1<<40, -1<<40+1, "a1"))},
		{sp(1<<40-1, 1<<40), list(vs(1, -1<<40, 1<<40, "a1")), pieces(pc(1<<40-1, 1<<40, "a1"))},
	} {
		if got := timeline.Make(c.a, c.l...); !same(got, c.want) {
			t.Errorf("Make(%v, %v) = %v, not %v", c.a, c.l, got, c.want)
		}
	}
	for _, a := range strange {
		for _, l := range [][]api.Version{nil, list(vs(1, 0, 10, "a1")), list(vs(1, -1<<40, 1<<40, "")), list(api.Version{Stamp: 1, Span: a})} {
			if got := timeline.Make(a, l...); len(got) != 0 {
				t.Errorf("Make(%v, %v) = %v", a, l, got)
			}
		}
	}
}

// small answers versions of two Stamps and of some fields, at all spans within so many times from one on, those that have no time among them.
func small(least, long int) []api.Version {
	var l []api.Version
	for _, a := range spansIn(least, least+long) {
		if a.From > a.To {
			continue
		}
		for _, written := range []string{"", "a1", "a2", "a1 b1"} {
			l = append(l, vs(1, a.From, a.To, written), vs(2, a.From, a.To, written))
		}
		l = append(l, gone(vs(2, a.From, a.To, "a3")))
	}
	return l
}

// TestMakeOfAllPairs holds Make of all pairs of small versions against the words of the chapter, around all times at which they end.
func TestMakeOfAllPairs(t *testing.T) {
	for _, least := range []int{-1 << 40, -1<<40 - 1, -1, 1<<40 - 3, 1<<40 - 2} {
		all := small(least, 3)
		for _, a := range append(spansIn(least, least+3), always) {
			for _, v := range all {
				for _, w := range all {
					if fault := faultOfMake(a, list(v, w)); fault != "" {
						t.Fatal(fault)
					}
				}
			}
		}
	}
}

// pick answers one of the things.
func pick[T any](r *rand.Rand, l []T) T { return l[r.Intn(len(l))] }

// someVersions answers up to so many versions: some of few stamps and times, so that they lie over each other, and some of any.
func someVersions(r *rand.Rand, many, stamps, times int) []api.Version {
	fields := []string{"", "a1", "a2", "b1", "a1 b1", "a2 b2", "b2 c3", "a1 a2", "c1 b1 a1", "B1 c3"}
	var l []api.Version
	for range r.Intn(many + 1) {
		from := r.Intn(times)
		v := vs(r.Intn(stamps), from, from+r.Intn(times), pick(r, fields))
		switch r.Intn(12) {
		case 0:
			v.Gone = true
		case 1:
			v.Span = pick(r, strange)
		case 2:
			v.Span = sp(pick(r, ends), pick(r, ends))
		case 3:
			v.Stamp = pick(r, ends)
		}
		l = append(l, v)
	}
	return l
}

// someSpan answers a span of few times, and now and then any.
func someSpan(r *rand.Rand, times int) api.Span {
	switch r.Intn(8) {
	case 0:
		return sp(pick(r, ends), pick(r, ends))
	case 1:
		return always
	}
	from := r.Intn(times+2) - 1
	return sp(from, from+r.Intn(times+2))
}

// TestMakeOfMany holds Make of many versions against the words of the chapter.
func TestMakeOfMany(t *testing.T) {
	r := rand.New(rand.NewSource(111))
	for range 40_000 {
		if fault := faultOfMake(someSpan(r, 12), someVersions(r, 7, 5, 12)); fault != "" {
			t.Fatal(fault)
		}
	}
	for range 200 {
		if fault := faultOfMake(someSpan(r, 100), someVersions(r, 100, 50, 100)); fault != "" {
			t.Fatal(fault)
		}
	}
}

// TestMakeInAnyOrder: if no two have one Stamp, it is the same in whatever order they stand.
func TestMakeInAnyOrder(t *testing.T) {
	r := rand.New(rand.NewSource(112))
	for range 5000 {
		l := someVersions(r, 6, 5, 10)
		for i := range l {
			l[i].Stamp = i
		}
		a := someSpan(r, 10)
		want := timeline.Make(a, l...)
		r.Shuffle(len(l), func(i, k int) { l[i], l[k] = l[k], l[i] })
		if got := timeline.Make(a, l...); !same(got, want) {
			t.Fatalf("Make(%v, %v) = %v, not %v", a, l, got, want)
		}
	}
}

// TestMakeHangsOnNoMap: what is told of many names and versions at once is told again.
func TestMakeHangsOnNoMap(t *testing.T) {
	var l []api.Version
	for i := range 40 {
		l = append(l, api.Version{Stamp: i % 7, Span: sp(i/2, 60-i), Fields: []api.Field{fl(string(rune('a'+i%13)), i), fl(string(rune('A'+i%11)), -i)}})
	}
	want := timeline.Make(sp(0, 60), l...)
	for range 50 {
		if got := timeline.Make(sp(0, 60), l...); !same(got, want) {
			t.Fatalf("%v, and then %v", want, got)
		}
	}
	if fault := faultOfMake(sp(0, 60), l); fault != "" {
		t.Fatal(fault)
	}
}

func TestRight(t *testing.T) {
	for _, c := range []struct {
		name string
		l    []api.Piece
		want bool
	}{
		{"nil", nil, true},
		{"none", pieces(), true},
		{"one", pieces(pc(0, 3, "a1")), true},
		{"one of no field", pieces(pc(0, 3, "")), true},
		{"apart, other fields", pieces(pc(0, 3, "a1"), pc(4, 6, "a2")), true},
		{"apart, the same fields", pieces(pc(0, 3, "a1"), pc(4, 6, "a1")), true},
		{"touching, another value", pieces(pc(0, 3, "a1"), pc(3, 6, "a2")), true},
		{"touching, another name", pieces(pc(0, 3, "a1"), pc(3, 6, "b1")), true},
		{"touching, a field more", pieces(pc(0, 3, "a1"), pc(3, 6, "a1 b1")), true},
		{"touching, a field less", pieces(pc(0, 3, "a0"), pc(3, 6, "")), true},
		{"touching, another order", pieces(pc(0, 3, "a1 b1"), pc(3, 6, "b1 a1")), true},
		{"touching, the same fields", pieces(pc(0, 3, "a1"), pc(3, 6, "a1")), false},
		{"touching, the same two fields", pieces(pc(0, 3, "a1 b2"), pc(3, 6, "a1 b2")), false},
		{"touching, no fields", pieces(pc(0, 3, ""), pc(3, 6, "")), false},
		{"touching, nil and empty", pieces(api.Piece{Span: sp(0, 3)}, api.Piece{Span: sp(3, 6), Fields: []api.Field{}}), false},
		{"overlapping", pieces(pc(0, 4, "a1"), pc(3, 6, "a2")), false},
		{"overlapping, the same fields", pieces(pc(0, 4, "a1"), pc(3, 6, "a1")), false},
		{"one span", pieces(pc(0, 4, "a1"), pc(0, 4, "a2")), false},
		{"one in the other", pieces(pc(0, 9, "a1"), pc(3, 6, "a2")), false},
		{"out of order", pieces(pc(4, 6, "a1"), pc(0, 3, "a2")), false},
		{"out of order, touching", pieces(pc(3, 6, "a1"), pc(0, 3, "a2")), false},
		{"the third one touches, the same fields", pieces(pc(0, 3, "a1"), pc(3, 6, "a2"), pc(6, 9, "a2")), false},
		{"the third one has the first one's fields", pieces(pc(0, 3, "a1"), pc(3, 6, "a2"), pc(6, 9, "a1")), true},
		{"the third one out of order", pieces(pc(0, 3, "a1"), pc(6, 9, "a2"), pc(4, 5, "a1")), false},
		{"all times", pieces(pc(-1<<40, 1<<40, "a1")), true},
		{"both ends", pieces(pc(-1<<40, -1<<40+1, "a1"), pc(1<<40-1, 1<<40, "a1")), true},
		{"fields that are not right", pieces(pc(0, 3, "b1 a1 a1 B7"), pc(3, 5, "b1")), true},
	} {
		if got := timeline.Right(c.l...); got != c.want {
			t.Errorf("%s: Right(%v) = %t", c.name, c.l, got)
		}
	}
	for _, a := range strange {
		bad := api.Piece{Span: a, Fields: fs("a1")}
		for _, l := range [][]api.Piece{pieces(bad), pieces(bad, pc(20, 30, "a2")), pieces(pc(-30, -20, "a2"), bad), pieces(pc(-30, -20, "a2"), bad, pc(20, 30, "a2"))} {
			if timeline.Right(l...) {
				t.Errorf("Right(%v)", l)
			}
		}
	}
}

// TestRightOfAllLists goes over all lists of up to three small pieces, around all times at which they end.
func TestRightOfAllLists(t *testing.T) {
	for _, least := range []int{-1 << 40, -1<<40 - 1, -1, 1<<40 - 3, 1<<40 - 2} {
		var all []api.Piece
		for _, a := range spansIn(least, least+3) {
			all = append(all, api.Piece{Span: a}, api.Piece{Span: a, Fields: fs("a1")})
		}
		for _, p := range all {
			for _, q := range all {
				for _, s := range all {
					l := pieces(p, q, s)
					for n := 1; n <= 3; n++ {
						if got := timeline.Right(l[:n]...); got != slowRight(l[:n]) {
							t.Fatalf("Right(%v) = %t", l[:n], got)
						}
					}
				}
			}
		}
	}
}

// somePieces answers any pieces: a timeline, one that is spoilt, or such as stand as they come.
func somePieces(r *rand.Rand) []api.Piece {
	fields := []string{"", "a1", "a2", "b1", "a1 b1", "a1 a2", "b1 a1"}
	var l []api.Piece
	switch r.Intn(3) {
	case 0:
		for range r.Intn(6) {
			l = append(l, api.Piece{Span: someSpan(r, 10), Fields: fs(pick(r, fields))})
		}
		return l
	case 1:
		l = timeline.Make(someSpan(r, 10), someVersions(r, 6, 5, 10)...)
	case 2:
		word := ""
		for range r.Intn(7) {
			word += pick(r, []string{".", ".", "-", "1", "2", "2", "3"})
		}
		l = line(r.Intn(4), word)
	}
	if len(l) > 0 && r.Intn(3) == 0 {
		p := &l[r.Intn(len(l))]
		switch r.Intn(4) {
		case 0:
			p.Span = someSpan(r, 10)
		case 1:
			p.Fields = fs(pick(r, fields))
		case 2:
			p.Span.To++
		case 3:
			r.Shuffle(len(l), func(i, k int) { l[i], l[k] = l[k], l[i] })
		}
	}
	return l
}

func TestRightOfMany(t *testing.T) {
	r := rand.New(rand.NewSource(113))
	rights := 0
	for range 50_000 {
		l := somePieces(r)
		got := timeline.Right(l...)
		if got != slowRight(l) {
			t.Fatalf("Right(%v) = %t", l, got)
		}
		if got {
			rights++
		}
	}
	if rights < 10_000 || rights > 45_000 {
		t.Errorf("%d are timelines: too few of the others, or of these", rights)
	}
}

func TestAt(t *testing.T) {
	three := pieces(pc(0, 3, "a1"), pc(3, 5, ""), pc(7, 9, "b2 a1"))
	over := pieces(pc(4, 8, "a1"), pc(0, 6, "a2"), pc(4, 8, "a3"))
	none := pieces(pc(3, 3, "a1"), pc(9, 0, "a1"), pc(-1<<40-1, 9, "a1"), pc(-9, 1<<40+1, "a1"), pc(math.MinInt, math.MaxInt, "a1"))
	for _, c := range []struct {
		l    []api.Piece
		at   int
		want string
		ok   bool
	}{
		{nil, 0, "", false},
		{pieces(), 0, "", false},
		{three, -1, "", false},
		{three, 0, "a1", true},
		{three, 2, "a1", true},
		{three, 3, "", true},
		{three, 4, "", true},
		{three, 5, "", false},
		{three, 6, "", false},
		{three, 7, "b2 a1", true},
		{three, 8, "b2 a1", true},
		{three, 9, "", false},
		{three, math.MinInt, "", false},
		{three, math.MaxInt, "", false},
		// Of several the first one.
		{over, 0, "a2", true},
		{over, 3, "a2", true},
		{over, 4, "a1", true},
		{over, 5, "a1", true},
		{over, 6, "a1", true},
		{over, 7, "a1", true},
		{over, 8, "", false},
		// Spans that are not right have no time.
		{none, 3, "", false},
		{none, 0, "", false},
		{none, -1 << 40, "", false},
		{none, -1<<40 - 1, "", false},
		{none, 1<<40 - 1, "", false},
		{none, 1 << 40, "", false},
		{append(none, pc(3, 4, "a2")), 3, "a2", true},
		// The least and greatest times.
		{pieces(pc(-1<<40, 1<<40, "a1")), -1 << 40, "a1", true},
		{pieces(pc(-1<<40, 1<<40, "a1")), -1<<40 - 1, "", false},
		{pieces(pc(-1<<40, 1<<40, "a1")), 1<<40 - 1, "a1", true},
		{pieces(pc(-1<<40, 1<<40, "a1")), 1 << 40, "", false},
	} {
		got, ok := timeline.At(c.l, c.at)
		if ok != c.ok || !slices.Equal(got, fs(c.want)) {
			t.Errorf("At(%v, %d) = %v, %t, not %s, %t", c.l, c.at, got, ok, c.want, c.ok)
		}
	}
}

// sameFieldsAt holds At against the words of the chapter.
func sameFieldsAt(l []api.Piece, t int) bool {
	got, ok := timeline.At(l, t)
	want, there := slowAt(l, t)
	return ok == there && slices.Equal(got, want)
}

// TestAtOfMany asks any lists at both ends of each piece, just beyond them, and at any times.
func TestAtOfMany(t *testing.T) {
	r := rand.New(rand.NewSource(114))
	for range 20_000 {
		l := somePieces(r)
		times := slices.Clone(ends)
		for _, p := range l {
			times = append(times, p.Span.From-1, p.Span.From, p.Span.From+1, p.Span.To-1, p.Span.To, p.Span.To+1)
		}
		for _, at := range times {
			if !sameFieldsAt(l, at) {
				got, ok := timeline.At(l, at)
				t.Fatalf("At(%v, %d) = %v, %t", l, at, got, ok)
			}
		}
	}
}

func TestKnown(t *testing.T) {
	for _, c := range []struct {
		l    []api.Piece
		want []api.Span
	}{
		{nil, nil},
		{pieces(), nil},
		{pieces(pc(0, 3, "a1")), []api.Span{sp(0, 3)}},
		{pieces(pc(0, 3, "")), []api.Span{sp(0, 3)}},
		{pieces(pc(0, 3, "a1"), pc(3, 6, "a2")), []api.Span{sp(0, 6)}},
		{pieces(pc(0, 3, "a1"), pc(4, 6, "a1")), []api.Span{sp(0, 3), sp(4, 6)}},
		{pieces(pc(0, 3, "a1"), pc(3, 6, "a2"), pc(8, 9, "a1")), []api.Span{sp(0, 6), sp(8, 9)}},
		// Lists that are no timelines.
		{pieces(pc(4, 6, "a1"), pc(0, 3, "a1")), []api.Span{sp(0, 3), sp(4, 6)}},
		{pieces(pc(3, 6, "a1"), pc(0, 3, "a1")), []api.Span{sp(0, 6)}},
		{pieces(pc(0, 5, "a1"), pc(3, 9, "a2"), pc(1, 2, "")), []api.Span{sp(0, 9)}},
		{pieces(pc(0, 3, "a1"), pc(5, 5, "a2"), pc(9, 2, "a2"), pc(-1<<40-1, 5, "a2"), pc(2, 1<<40+1, "a2")), []api.Span{sp(0, 3)}},
		{pieces(pc(math.MinInt, math.MaxInt, "a1")), nil},
		{pieces(pc(-1<<40, 1<<40, "a1")), []api.Span{always}},
		{pieces(pc(1<<40-1, 1<<40, "a1"), pc(-1<<40, -1<<40+1, "a1")), []api.Span{sp(-1<<40, -1<<40+1), sp(1<<40-1, 1<<40)}},
	} {
		if got := timeline.Known(c.l...); !slices.Equal(got, c.want) {
			t.Errorf("Known(%v) = %v, not %v", c.l, got, c.want)
		}
	}
}

// TestKnownOfMany: Known is a cover, which has just the times at which At tells something.
func TestKnownOfMany(t *testing.T) {
	r := rand.New(rand.NewSource(115))
	for range 20_000 {
		l := somePieces(r)
		known := timeline.Known(l...)
		times := slices.Clone(ends)
		for _, p := range l {
			times = append(times, p.Span.From-1, p.Span.From, p.Span.From+1, p.Span.To-1, p.Span.To, p.Span.To+1)
		}
		for i, a := range known {
			if !right(a) || i > 0 && known[i-1].To >= a.From {
				t.Fatalf("Known(%v) = %v is no cover", l, known)
			}
			times = append(times, a.From-1, a.From, a.To-1, a.To)
		}
		for _, at := range times {
			_, there := slowAt(l, at)
			if slices.ContainsFunc(known, func(a api.Span) bool { return has(a, at) }) != there {
				t.Fatalf("Known(%v) = %v at %d", l, known, at)
			}
		}
	}
}

func TestSame(t *testing.T) {
	two := func() []api.Piece { return pieces(pc(0, 3, "a1 b2"), pc(3, 5, "c1")) }
	changed := func(do func(l []api.Piece)) []api.Piece {
		l := two()
		do(l)
		return l
	}
	for _, c := range []struct {
		name string
		a, b []api.Piece
		want bool
	}{
		{"both nil", nil, nil, true},
		{"nil and empty", nil, pieces(), true},
		{"both empty", pieces(), pieces(), true},
		{"nil and one", nil, pieces(pc(0, 3, "")), false},
		{"empty and a zero one", pieces(), pieces(api.Piece{}), false},
		{"two alike", two(), two(), true},
		{"no fields: nil and empty", pieces(api.Piece{Span: sp(0, 3)}), pieces(api.Piece{Span: sp(0, 3), Fields: []api.Field{}}), true},
		{"one less", two(), two()[:1], false},
		{"another one more", two(), append(two(), pc(7, 8, "")), false},
		{"the same one more", two(), append(two(), pc(3, 5, "c1")), false},
		{"the other order", two(), changed(func(l []api.Piece) { l[0], l[1] = l[1], l[0] }), false},
		{"another From", two(), changed(func(l []api.Piece) { l[0].Span.From = 1 }), false},
		{"another To", two(), changed(func(l []api.Piece) { l[0].Span.To = 2 }), false},
		{"another From of the last", two(), changed(func(l []api.Piece) { l[1].Span.From = 4 }), false},
		{"another To of the last", two(), changed(func(l []api.Piece) { l[1].Span.To = 6 }), false},
		{"another name", two(), changed(func(l []api.Piece) { l[0].Fields[0].Name = "A" }), false},
		{"another value", two(), changed(func(l []api.Piece) { l[0].Fields[1].Value = -2 }), false},
		{"another value of the last", two(), changed(func(l []api.Piece) { l[1].Fields[0].Value = 0 }), false},
		{"a field less", two(), changed(func(l []api.Piece) { l[0].Fields = l[0].Fields[:1] }), false},
		{"a field more", two(), changed(func(l []api.Piece) { l[1].Fields = fs("c1 d1") }), false},
		{"no field", two(), changed(func(l []api.Piece) { l[1].Fields = nil }), false},
		{"fields in another order", two(), changed(func(l []api.Piece) { l[0].Fields = fs("b2 a1") }), false},
		// Lists that are no timelines are held against each other, too.
		{"the same pieces that are not right", pieces(pc(9, 0, "a1"), pc(3, 3, "B1")), pieces(pc(9, 0, "a1"), pc(3, 3, "B1")), true},
		{"other pieces that are not right", pieces(pc(9, 0, "a1")), pieces(pc(8, 0, "a1")), false},
		{"one piece, and the same in two", pieces(pc(0, 5, "a1")), pieces(pc(0, 3, "a1"), pc(3, 5, "a1")), false},
	} {
		if got := timeline.Same(c.a, c.b); got != c.want {
			t.Errorf("%s: Same(%v, %v) = %t", c.name, c.a, c.b, got)
		}
		if got := timeline.Same(c.b, c.a); got != c.want {
			t.Errorf("%s: Same(%v, %v) = %t", c.name, c.b, c.a, got)
		}
	}
}

// TestSameOfAllPairs: small timelines are the same just if they are written the same.
func TestSameOfAllPairs(t *testing.T) {
	all := words(".-12", 4)
	for _, a := range all {
		for _, b := range all {
			if got := timeline.Same(line(0, a), line(0, b)); got != (a == b) {
				t.Fatalf("Same of %s and %s = %t", a, b, got)
			}
		}
	}
}
