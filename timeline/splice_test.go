package timeline_test

import (
	"fmt"
	"math"
	"math/rand"
	"slices"
	"testing"

	"erratum/api"
	"erratum/timeline"
)

func TestClip(t *testing.T) {
	two := pieces(pc(0, 3, "a1"), pc(3, 5, "a2"), pc(7, 9, ""))
	for _, c := range []struct {
		a    api.Span
		l    []api.Piece
		want []api.Piece
	}{
		{sp(0, 9), nil, nil},
		{sp(0, 9), pieces(), nil},
		{sp(0, 9), two, two},
		{always, two, two},
		{sp(-3, 20), two, two},
		// Ahead, behind, and between.
		{sp(-3, -1), two, nil},
		{sp(-3, 0), two, nil},
		{sp(9, 12), two, nil},
		{sp(10, 12), two, nil},
		{sp(5, 7), two, nil},
		// Cut at one end, and at both.
		{sp(-3, 1), two, pieces(pc(0, 1, "a1"))},
		{sp(8, 12), two, pieces(pc(8, 9, ""))},
		{sp(1, 2), two, pieces(pc(1, 2, "a1"))},
		{sp(0, 3), two, pieces(pc(0, 3, "a1"))},
		{sp(3, 5), two, pieces(pc(3, 5, "a2"))},
		{sp(2, 4), two, pieces(pc(2, 3, "a1"), pc(3, 4, "a2"))},
		{sp(4, 8), two, pieces(pc(4, 5, "a2"), pc(7, 8, ""))},
		{sp(2, 8), two, pieces(pc(2, 3, "a1"), pc(3, 5, "a2"), pc(7, 8, ""))},
		{sp(3, 7), two, pieces(pc(3, 5, "a2"))},
		// The least and greatest times.
		{sp(-1<<40, -1<<40+1), pieces(pc(-1<<40, 1<<40, "a1")), pieces(pc(-1<<40, -1<<40+1, "a1"))},
		{sp(1<<40-1, 1<<40), pieces(pc(-1<<40, 1<<40, "a1")), pieces(pc(1<<40-1, 1<<40, "a1"))},
		{always, pieces(pc(-1<<40, 1<<40, "a1")), pieces(pc(-1<<40, 1<<40, "a1"))},
		// Fields that are not right stay as they are.
		{sp(1, 9), pieces(pc(0, 3, "b1 a1 a2"), pc(3, 4, "a1 b1 a2")), pieces(pc(1, 3, "b1 a1 a2"), pc(3, 4, "a1 b1 a2"))},
	} {
		if got := timeline.Clip(c.a, c.l...); !same(got, c.want) {
			t.Errorf("Clip(%v, %v) = %v, not %v", c.a, c.l, got, c.want)
		}
	}
	for _, a := range strange {
		for _, l := range [][]api.Piece{nil, two, pieces(pc(-1<<40, 1<<40, "a1"))} {
			if got := timeline.Clip(a, l...); len(got) != 0 {
				t.Errorf("Clip(%v, %v) = %v", a, l, got)
			}
		}
	}
}

func TestClipOfNone(t *testing.T) {
	for _, l := range none {
		for _, a := range append([]api.Span{always, sp(0, 9), sp(0, 1), sp(-5, -3)}, strange...) {
			if got := timeline.Clip(a, l...); len(got) != 0 {
				t.Errorf("Clip(%v, %v) = %v", a, l, got)
			}
		}
	}
}

// cut answers the word of what is left of a timeline within a: the letters of all other times are those of nothing.
func cut(a api.Span, from int, written string) string {
	left := []byte(written)
	for i := range left {
		if !has(a, from+i) {
			left[i] = '.'
		}
	}
	return string(left)
}

// TestClipOfAll clips all small timelines by all spans that begin and end from ahead of them to behind them.
func TestClipOfAll(t *testing.T) {
	for _, from := range around(4) {
		spans := append(spansIn(from-1, from+5), always)
		for _, written := range words(".-12", 4) {
			l := line(from, written)
			for _, a := range spans {
				if got, want := timeline.Clip(a, l...), line(from, cut(a, from, written)); !same(got, want) {
					t.Fatalf("Clip(%v, %v) = %v, not %v", a, l, got, want)
				}
			}
		}
	}
}

// TestClipOfMany clips any lists.
func TestClipOfMany(t *testing.T) {
	r := rand.New(rand.NewSource(116))
	for range 30_000 {
		l, a := somePieces(r), someSpan(r, 12)
		fault := faultOf(timeline.Clip(a, l...), spliceTimes(l, a, nil), func(t int) ([]api.Field, bool) {
			if !has(a, t) || !slowRight(l) {
				return nil, false
			}
			return slowAt(l, t)
		})
		if fault != "" {
			t.Fatalf("Clip(%v, %v): %s", a, l, fault)
		}
	}
}

func TestSplice(t *testing.T) {
	l := pieces(pc(0, 3, "a1"), pc(3, 6, "a2"), pc(8, 9, ""))
	for _, c := range []struct {
		l    []api.Piece
		a    api.Span
		m    []api.Piece
		want []api.Piece
	}{
		// Nothing on one side, or on both.
		{nil, sp(0, 9), nil, nil},
		{pieces(), sp(0, 9), pieces(), nil},
		{nil, sp(0, 9), l, l},
		{nil, sp(2, 4), l, pieces(pc(2, 3, "a1"), pc(3, 4, "a2"))},
		{l, always, nil, nil},
		{l, sp(2, 4), nil, pieces(pc(0, 2, "a1"), pc(4, 6, "a2"), pc(8, 9, ""))},
		{l, sp(6, 8), nil, l},
		{l, sp(-5, 0), nil, l},
		{l, sp(9, 12), nil, l},
		{l, sp(3, 6), nil, pieces(pc(0, 3, "a1"), pc(8, 9, ""))},
		{l, sp(0, 9), nil, nil},
		// What m has at other times does not count.
		{l, sp(6, 8), pieces(pc(0, 6, "a7"), pc(8, 20, "a7")), l},
		{l, sp(6, 7), pieces(pc(-9, 20, "a7")), pieces(pc(0, 3, "a1"), pc(3, 6, "a2"), pc(6, 7, "a7"), pc(8, 9, ""))},
		{l, sp(-4, 1), pieces(pc(-9, 20, "a7")), pieces(pc(-4, 1, "a7"), pc(1, 3, "a1"), pc(3, 6, "a2"), pc(8, 9, ""))},
		{l, sp(5, 10), pieces(pc(-9, 20, "a7")), pieces(pc(0, 3, "a1"), pc(3, 5, "a2"), pc(5, 10, "a7"))},
		{l, always, pieces(pc(-9, 20, "a7")), pieces(pc(-9, 20, "a7"))},
		{pieces(pc(0, 9, "a1")), sp(3, 6), pieces(pc(4, 5, "a7")), pieces(pc(0, 3, "a1"), pc(4, 5, "a7"), pc(6, 9, "a1"))},
		{pieces(pc(0, 9, "a1")), sp(3, 6), pieces(pc(3, 6, "b1")), pieces(pc(0, 3, "a1"), pc(3, 6, "b1"), pc(6, 9, "a1"))},
		// The same fields at the borders: pieces become one.
		{pieces(pc(0, 9, "a1")), sp(3, 6), pieces(pc(0, 9, "a1")), pieces(pc(0, 9, "a1"))},
		{pieces(pc(0, 9, "a1")), sp(3, 6), pieces(pc(3, 6, "a1")), pieces(pc(0, 9, "a1"))},
		{pieces(pc(0, 9, "")), sp(3, 6), pieces(pc(3, 6, "")), pieces(pc(0, 9, ""))},
		{pieces(pc(0, 3, "a1")), sp(3, 6), pieces(pc(3, 6, "a1")), pieces(pc(0, 6, "a1"))},
		{pieces(pc(6, 9, "a1")), sp(3, 6), pieces(pc(3, 6, "a1")), pieces(pc(3, 9, "a1"))},
		{pieces(pc(0, 3, "a1"), pc(6, 9, "a1")), sp(3, 6), pieces(pc(0, 9, "a1")), pieces(pc(0, 9, "a1"))},
		{pieces(pc(0, 3, "a1"), pc(6, 9, "a2")), sp(3, 6), pieces(pc(3, 4, "a1"), pc(4, 6, "a2")), pieces(pc(0, 4, "a1"), pc(4, 9, "a2"))},
		{pieces(pc(0, 3, "a1"), pc(3, 6, "a2"), pc(6, 9, "a1")), sp(3, 6), pieces(pc(3, 6, "a1")), pieces(pc(0, 9, "a1"))},
		{pieces(pc(0, 9, "a1")), sp(0, 3), pieces(pc(0, 3, "a1")), pieces(pc(0, 9, "a1"))},
		{pieces(pc(0, 9, "a1")), sp(6, 9), pieces(pc(6, 9, "a1")), pieces(pc(0, 9, "a1"))},
		{pieces(pc(0, 9, "a1")), sp(3, 6), pieces(pc(3, 5, "a1")), pieces(pc(0, 5, "a1"), pc(6, 9, "a1"))},
		{pieces(pc(0, 9, "a0")), sp(3, 6), pieces(pc(3, 6, "")), pieces(pc(0, 3, "a0"), pc(3, 6, ""), pc(6, 9, "a0"))},
		// The least and greatest times.
		{pieces(pc(-1<<40, 1<<40, "a1")), sp(-1<<40, 0), pieces(pc(-1<<40, 1<<40, "a2")), pieces(pc(-1<<40, 0, "a2"), pc(0, 1<<40, "a1"))},
		{pieces(pc(-1<<40, 1<<40, "a1")), sp(0, 1<<40), pieces(pc(-1<<40, 1<<40, "a2")), pieces(pc(-1<<40, 0, "a1"), pc(0, 1<<40, "a2"))},
		{pieces(pc(-1<<40, 1<<40, "a1")), always, pieces(pc(-1<<40, 1<<40, "a2")), pieces(pc(-1<<40, 1<<40, "a2"))},
		{pieces(pc(-1<<40, 1<<40, "a1")), sp(-1<<40, -1<<40+1), nil, pieces(pc(-1<<40+1, 1<<40, "a1"))},
		{pieces(pc(-1<<40, 1<<40, "a1")), sp(1<<40-1, 1<<40), nil, pieces(pc(-1<<40, 1<<40-1, "a1"))},
	} {
		if got := timeline.Splice(c.l, c.a, c.m); !same(got, c.want) {
			t.Errorf("Splice(%v, %v, %v) = %v, not %v", c.l, c.a, c.m, got, c.want)
		}
	}
	// By a span that is not right: the first list.
	for _, a := range strange {
		for _, l := range [][]api.Piece{nil, l, pieces(pc(-1<<40, 1<<40, "a1")), line(-2, "1.1-2")} {
			for _, m := range [][]api.Piece{nil, pieces(pc(-9, 20, "a7"))} {
				if got := timeline.Splice(l, a, m); !same(got, l) {
					t.Errorf("Splice(%v, %v, %v) = %v", l, a, m, got)
				}
			}
		}
	}
}

// TestSpliceOfNone: nothing is told of lists of which either is no timeline, whatever the span is.
func TestSpliceOfNone(t *testing.T) {
	for _, x := range none {
		for _, y := range append([][]api.Piece{nil, pieces(pc(0, 9, "a1"))}, none...) {
			for _, a := range append([]api.Span{always, sp(0, 9), sp(2, 3), sp(-9, -8)}, strange...) {
				if got := timeline.Splice(x, a, y); len(got) != 0 {
					t.Errorf("Splice(%v, %v, %v) = %v", x, a, y, got)
				}
				if got := timeline.Splice(y, a, x); len(got) != 0 {
					t.Errorf("Splice(%v, %v, %v) = %v", y, a, x, got)
				}
			}
		}
	}
}

// spliced answers the word of what has the second one's letters within a, and the first one's at other times.
func spliced(first string, a api.Span, from int, second string) string {
	both := []byte(first)
	for i := range both {
		if has(a, from+i) {
			both[i] = second[i]
		}
	}
	return string(both)
}

// TestSpliceOfAll splices all pairs of small timelines by all spans that begin and end from ahead of them to behind them.
func TestSpliceOfAll(t *testing.T) {
	for _, from := range around(3) {
		spans := append(spansIn(from-1, from+4), always)
		all := words(".-12", 3)
		for _, first := range all {
			for _, second := range all {
				l, m := line(from, first), line(from, second)
				for _, a := range spans {
					if got, want := timeline.Splice(l, a, m), line(from, spliced(first, a, from, second)); !same(got, want) {
						t.Fatalf("Splice(%v, %v, %v) = %v, not %v", l, a, m, got, want)
					}
				}
			}
		}
	}
}

// spliceTimes answers all times at which what is spliced may change.
func spliceTimes(l []api.Piece, a api.Span, m []api.Piece) []int {
	times := []int{a.From, a.To}
	for _, p := range slices.Concat(l, m) {
		times = append(times, p.Span.From, p.Span.To)
	}
	return times
}

// TestSpliceOfMany splices any lists.
func TestSpliceOfMany(t *testing.T) {
	r := rand.New(rand.NewSource(117))
	for range 50_000 {
		l, m, a := somePieces(r), somePieces(r), someSpan(r, 12)
		fault := faultOf(timeline.Splice(l, a, m), spliceTimes(l, a, m), func(t int) ([]api.Field, bool) {
			switch {
			case !slowRight(l) || !slowRight(m):
				return nil, false
			case has(a, t):
				return slowAt(m, t)
			}
			return slowAt(l, t)
		})
		if fault != "" {
			t.Fatalf("Splice(%v, %v, %v): %s", l, a, m, fault)
		}
	}
}

// common answers the span of the times that both have; it is not right, if there are none.
func common(a, b api.Span) api.Span {
	if !right(a) || !right(b) {
		return api.Span{}
	}
	return sp(max(a.From, b.From), min(a.To, b.To))
}

// faultOfTurned tells what is wrong, if one more version comes: the timeline of a is the one ahead, in which that of the version's span is spliced.
func faultOfTurned(a api.Span, l []api.Version, v api.Version) string {
	more := append(slices.Clone(l), v)
	ahead, behind := timeline.Make(a, l...), timeline.Make(a, more...)
	// Where a does not hold all of the version's span, what both have in common is turned.
	part := common(a, v.Span)
	if got := timeline.Splice(ahead, part, timeline.Make(part, more...)); !same(got, behind) {
		return fmt.Sprintf("%v of %v, and one more, %v: %v spliced in %v = %v, not %v", a, l, v, part, ahead, got, behind)
	}
	return ""
}

// TestTurned lets one more version come to all small versions, and to many others.
func TestTurned(t *testing.T) {
	all := small(0, 3)
	for _, a := range []api.Span{always, sp(0, 3), sp(1, 3), sp(3, 3)} {
		for _, v := range all {
			if fault := faultOfTurned(a, nil, v); fault != "" {
				t.Fatal(fault)
			}
			for _, w := range all {
				if fault := faultOfTurned(a, list(v), w); fault != "" {
					t.Fatal(fault)
				}
			}
		}
	}
	few := small(0, 2)
	for _, v := range few {
		for _, w := range few {
			for _, x := range few {
				if fault := faultOfTurned(always, list(v, w), x); fault != "" {
					t.Fatal(fault)
				}
			}
		}
	}
	r := rand.New(rand.NewSource(118))
	for range 20_000 {
		l := append(someVersions(r, 8, 6, 12), vs(r.Intn(6), r.Intn(6), r.Intn(14), "a5"))
		last := len(l) - 1
		if fault := faultOfTurned(pick(r, []api.Span{always, someSpan(r, 12)}), l[:last], l[last]); fault != "" {
			t.Fatal(fault)
		}
	}
}

// faultOfClipped holds Clip of Make against Make of what both spans have in common, and splices it in again.
func faultOfClipped(a, b api.Span, l []api.Version) string {
	whole := timeline.Make(a, l...)
	both := common(a, b)
	part, clipped := timeline.Make(both, l...), timeline.Clip(b, whole...)
	if !same(part, clipped) {
		return fmt.Sprintf("Clip(%v) of Make(%v, %v) = %v, not %v", b, a, l, clipped, part)
	}
	for _, where := range []api.Span{b, both} {
		if got := timeline.Splice(whole, where, clipped); !same(got, whole) {
			return fmt.Sprintf("%v of %v spliced in again at %v = %v", clipped, whole, where, got)
		}
	}
	return ""
}

// TestClipped goes over all pairs of small versions, and over many others.
func TestClipped(t *testing.T) {
	all := small(0, 2)
	for _, a := range []api.Span{always, sp(0, 2), sp(-1, 1)} {
		for _, b := range spansIn(-1, 3) {
			for _, v := range all {
				for _, w := range all {
					if fault := faultOfClipped(a, b, list(v, w)); fault != "" {
						t.Fatal(fault)
					}
				}
			}
		}
	}
	r := rand.New(rand.NewSource(119))
	for range 20_000 {
		if fault := faultOfClipped(someSpan(r, 12), someSpan(r, 12), someVersions(r, 8, 6, 12)); fault != "" {
			t.Fatal(fault)
		}
	}
}

// overwritten writes to all pieces and fields of a list, and puts more behind its fields, in the room that they may have.
func overwritten(l []api.Piece) {
	for i := range l {
		l[i].Span = sp(-7, -7)
		for k := range l[i].Fields {
			l[i].Fields[k] = fl("overwritten", -7)
		}
		_ = append(l[i].Fields, fl("behind", -7))
	}
	_ = append(l, pc(-7, -7, "z7"))
}

// TestAnswersAreNew writes to answers, and then to arguments: neither is seen in the other, nor in another answer, nor in the next piece.
func TestAnswersAreNew(t *testing.T) {
	lists := func() ([]api.Piece, []api.Piece) {
		return pieces(pc(0, 9, "a1 b2"), pc(9, 12, "a3 b3")), pieces(pc(2, 5, "a4 b4"), pc(5, 7, "a5 b5"))
	}
	calls := map[string]func(l, m []api.Piece, v []api.Version) []api.Piece{
		"Clip":   func(l, m []api.Piece, v []api.Version) []api.Piece { return timeline.Clip(sp(-5, 20), l...) },
		"Splice": func(l, m []api.Piece, v []api.Version) []api.Piece { return timeline.Splice(l, sp(3, 6), m) },
		"Splice of no span": func(l, m []api.Piece, v []api.Version) []api.Piece {
			return timeline.Splice(l, sp(6, 3), m)
		},
		"Splice of nothing": func(l, m []api.Piece, v []api.Version) []api.Piece { return timeline.Splice(l, sp(3, 6), nil) },
		"Make":              func(l, m []api.Piece, v []api.Version) []api.Piece { return timeline.Make(sp(0, 20), v...) },
		"At": func(l, m []api.Piece, v []api.Version) []api.Piece {
			fields, _ := timeline.At(l, 3)
			return pieces(api.Piece{Fields: fields})
		},
	}
	for name, call := range calls {
		l, m := lists()
		versions := list(vs(1, 0, 9, "a1 b2"), vs(2, 12, 15, "a1 b2"), vs(3, 4, 5, "c1"))
		keptL, keptM, keptVersions := copied(l), copied(m), copiedVersions(versions)
		got, again := call(l, m, versions), call(l, m, versions)
		want := copied(got)
		overwritten(got)
		if !same(l, keptL) || !same(m, keptM) || !sameVersions(versions, keptVersions) {
			t.Errorf("%s: what was written to the answer is in %v, %v, %v", name, l, m, versions)
		}
		overwritten(l)
		overwritten(m)
		for _, v := range versions {
			v.Fields[0] = fl("overwritten", -7)
		}
		if !same(again, want) {
			t.Errorf("%s: what was written to another answer, or to an argument, is in %v, not %v", name, again, want)
		}
		// No piece's fields share room with those of another one.
		for i := range again {
			fields := again[i].Fields
			for k := range fields {
				fields[k] = fl("overwritten", i)
			}
			_ = append(fields, fl("behind", i))
			for k := range again {
				if k > i && !samePiece(again[k], want[k]) {
					t.Errorf("%s: what was written to the piece %d is in %v", name, i, again[k])
				}
			}
		}
	}
	l, _ := lists()
	known := timeline.Known(l...)
	known[0] = sp(-7, -7)
	if kept, _ := lists(); !same(l, kept) || !slices.Equal(timeline.Known(l...), []api.Span{sp(0, 12)}) {
		t.Errorf("what was written to Known is in %v", l)
	}
}

// TestArgumentsStay: no call writes to its arguments, nor to the room behind them.
func TestArgumentsStay(t *testing.T) {
	r := rand.New(rand.NewSource(120))
	for range 3000 {
		l, m := append(somePieces(r), pc(70, 71, "r1")), append(somePieces(r), pc(80, 81, "r2"))
		versions := append(someVersions(r, 6, 5, 10), vs(77, 0, 9, "r3"))
		keptL, keptM, keptVersions := copied(l), copied(m), copiedVersions(versions)
		shortL, shortM, a := l[:len(l)-1], m[:len(m)-1], someSpan(r, 10)
		timeline.Right(shortL...)
		timeline.Make(a, versions[:len(versions)-1]...)
		timeline.At(shortL, r.Intn(10))
		timeline.Clip(a, shortL...)
		timeline.Splice(shortL, a, shortM)
		timeline.Splice(shortL, a, shortL)
		timeline.Known(shortL...)
		timeline.Same(shortL, shortM)
		if !same(l, keptL) || !same(m, keptM) || !sameVersions(versions, keptVersions) {
			t.Fatalf("%v, %v, %v became %v, %v, %v", keptL, keptM, keptVersions, l, m, versions)
		}
	}
}

// TestEndsEverywhere calls all with spans that begin and end at the ends of all that may be given (P1).
func TestEndsEverywhere(t *testing.T) {
	var spans []api.Span
	for _, from := range ends {
		for _, to := range ends {
			spans = append(spans, sp(from, to))
		}
	}
	for _, a := range spans {
		for _, b := range spans {
			l := list(vs(1, b.From, b.To, "a1"), vs(2, -1<<40, 1<<40, "b1"), vs(math.MinInt, a.From, a.To, "a2"))
			if fault := faultOfMake(a, l); fault != "" {
				t.Fatal(fault)
			}
			x, y := pieces(api.Piece{Span: a, Fields: fs("a1")}), pieces(api.Piece{Span: b})
			if got := timeline.Right(x[0], y[0]); got != slowRight(append(x[:1:1], y...)) {
				t.Fatalf("Right(%v, %v) = %t", x, y, got)
			}
			if got := timeline.Splice(x, b, y); right(a) && right(b) {
				if there := timeline.Clip(b, got...); !same(there, y) {
					t.Fatalf("Splice(%v, %v, %v) = %v", x, b, y, got)
				}
			}
			if got, ok := timeline.At(x, b.From); ok != has(a, b.From) || !ok && got != nil {
				t.Fatalf("At(%v, %d) = %v, %t", x, b.From, got, ok)
			}
			if got := timeline.Known(x...); (len(got) == 1) != right(a) {
				t.Fatalf("Known(%v) = %v", x, got)
			}
		}
	}
}

// TestManyVersions: long lists end, too, whether their spans lie beside each other or all over each other.
func TestManyVersions(t *testing.T) {
	const n = 1 << 14
	var beside, within []api.Version
	for i := range n {
		at := i * 40503 % n // Each place once, in no order.
		beside = append(beside, api.Version{Stamp: i, Span: sp(2*at, 2*at+2), Fields: []api.Field{fl("a", at%2)}})
		within = append(within, api.Version{Stamp: at, Span: sp(at, 4*n-at), Fields: []api.Field{fl("a", at)}})
	}
	l := timeline.Make(always, beside...)
	if len(l) != n || !timeline.Right(l...) || !samePiece(l[n-1], pc(2*n-2, 2*n, "a1")) {
		t.Fatalf("beside each other: %d pieces", len(l))
	}
	m := timeline.Make(always, within...)
	if len(m) != 2*n-1 || !timeline.Right(m...) || m[n-1].Span != sp(n-1, 3*n+1) || m[n-1].Fields[0] != fl("a", n-1) {
		t.Fatalf("over each other: %d pieces", len(m))
	}
	if known := timeline.Known(m...); !slices.Equal(known, []api.Span{sp(0, 4*n)}) {
		t.Errorf("Known: %d spans", len(known))
	}
	if got := timeline.Splice(l, sp(n, n+2), m); len(got) != n || !samePiece(got[n/2], api.Piece{Span: sp(n, n+2), Fields: m[n-1].Fields}) {
		t.Errorf("Splice: %d pieces", len(got))
	}
	rising := copied(m[:n])
	rising[n-1].Span.To = n
	if got := timeline.Clip(sp(0, n), m...); !same(got, rising) {
		t.Errorf("Clip: %d pieces", len(got))
	}
	if !timeline.Same(m, copied(m)) || timeline.Same(m, m[1:]) {
		t.Error("Same")
	}
}
