package diff_test

import (
	"fmt"
	"math"
	"math/rand"
	"slices"
	"testing"

	"erratum/api"
	"erratum/diff"
	"erratum/sketch"
)

// Short names of what these tests are written with.
var (
	fl, fs, sp, pc, line, words   = sketch.Field, sketch.Fields, sketch.Span, sketch.Piece, sketch.Line, sketch.Words
	right, has, slowRight, slowAt = sketch.Right, sketch.Has, sketch.Timeline, sketch.At
	same, copied, around, written = sketch.Same, sketch.Copy, sketch.Around, sketch.Written
	strange, ends, none           = sketch.Strange(), sketch.Ends(), sketch.NoTimelines()
)

// pieces and changes make the writing of lists short, and ch that of a change, "." being nothing, and "" a state of no field.
func pieces(l ...api.Piece) []api.Piece { return l }

func changes(l ...diff.Change) []diff.Change { return l }

func ch(from, to int, old, now string) diff.Change {
	c := diff.Change{Span: sp(from, to), Had: old != ".", Has: now != "."}
	if c.Had {
		c.Old = fs(old)
	}
	if c.Has {
		c.New = fs(now)
	}
	return c
}

// turned answers the changes from one word's timeline to that of another one as long: letters that go on in both are one.
func turned(from int, old, now string) []diff.Change {
	var l []diff.Change
	for i := range len(old) {
		switch {
		case old[i] == now[i]:
		case i > 0 && old[i-1] == old[i] && now[i-1] == now[i]:
			l[len(l)-1].Span.To++
		default:
			l = append(l, ch(from+i, from+i+1, written(old[i]), written(now[i])))
		}
	}
	return l
}

func sameChange(c, d diff.Change) bool {
	return c.Span == d.Span && c.Had == d.Had && c.Has == d.Has && slices.Equal(c.Old, d.Old) && slices.Equal(c.New, d.New)
}

func sameChanges(a, b []diff.Change) bool { return slices.EqualFunc(a, b, sameChange) }

func TestOf(t *testing.T) {
	two := pieces(pc(0, 3, "a1"), pc(3, 6, "a2"), pc(8, 9, ""))
	for _, c := range []struct {
		a, b []api.Piece
		want []diff.Change
	}{
		// The chapter's example.
		{pieces(pc(0, 4, "a1")), pieces(pc(0, 2, "a1")), changes(ch(2, 4, "a1", "."))},
		// Nothing on one side, or on both.
		{nil, nil, nil},
		{pieces(), nil, nil},
		{nil, pieces(), nil},
		{nil, two, changes(ch(0, 3, ".", "a1"), ch(3, 6, ".", "a2"), ch(8, 9, ".", ""))},
		{two, nil, changes(ch(0, 3, "a1", "."), ch(3, 6, "a2", "."), ch(8, 9, "", "."))},
		{two, pieces(), changes(ch(0, 3, "a1", "."), ch(3, 6, "a2", "."), ch(8, 9, "", "."))},
		// The same all along.
		{two, two, nil},
		{pieces(pc(0, 3, "")), pieces(pc(0, 3, "")), nil},
		{pieces(api.Piece{Span: sp(0, 3), Fields: []api.Field{}}), pieces(pc(0, 3, "")), nil},
		// A state of no field is not nothing, nor a field of the value 0.
		{nil, pieces(pc(0, 3, "")), changes(ch(0, 3, ".", ""))},
		{pieces(pc(0, 3, "")), nil, changes(ch(0, 3, "", "."))},
		{pieces(pc(0, 3, "")), pieces(pc(0, 3, "a0")), changes(ch(0, 3, "", "a0"))},
		// Apart, and touching.
		{pieces(pc(0, 3, "a1")), pieces(pc(5, 7, "a1")), changes(ch(0, 3, "a1", "."), ch(5, 7, ".", "a1"))},
		{pieces(pc(5, 7, "a1")), pieces(pc(0, 3, "a1")), changes(ch(0, 3, ".", "a1"), ch(5, 7, "a1", "."))},
		{pieces(pc(0, 3, "a1")), pieces(pc(3, 7, "a1")), changes(ch(0, 3, "a1", "."), ch(3, 7, ".", "a1"))},
		{pieces(pc(3, 7, "a1")), pieces(pc(0, 3, "a2")), changes(ch(0, 3, ".", "a2"), ch(3, 7, "a1", "."))},
		// Overlapping, of the same fields and of others.
		{pieces(pc(0, 5, "a1")), pieces(pc(3, 7, "a1")), changes(ch(0, 3, "a1", "."), ch(5, 7, ".", "a1"))},
		{pieces(pc(0, 5, "a1")), pieces(pc(3, 7, "a2")), changes(ch(0, 3, "a1", "."), ch(3, 5, "a1", "a2"), ch(5, 7, ".", "a2"))},
		{pieces(pc(3, 7, "a1")), pieces(pc(0, 5, "a2")), changes(ch(0, 3, ".", "a2"), ch(3, 5, "a1", "a2"), ch(5, 7, "a1", "."))},
		// One within the other, in its midst and at each end.
		{pieces(pc(0, 9, "a1")), pieces(pc(3, 6, "a1")), changes(ch(0, 3, "a1", "."), ch(6, 9, "a1", "."))},
		{pieces(pc(0, 9, "a1")), pieces(pc(3, 6, "b1")), changes(ch(0, 3, "a1", "."), ch(3, 6, "a1", "b1"), ch(6, 9, "a1", "."))},
		{pieces(pc(3, 6, "a1")), pieces(pc(0, 9, "a2")), changes(ch(0, 3, ".", "a2"), ch(3, 6, "a1", "a2"), ch(6, 9, ".", "a2"))},
		{pieces(pc(3, 6, "")), pieces(pc(0, 9, "")), changes(ch(0, 3, ".", ""), ch(6, 9, ".", ""))},
		{pieces(pc(0, 9, "a1")), pieces(pc(0, 6, "a1")), changes(ch(6, 9, "a1", "."))},
		{pieces(pc(0, 9, "a1")), pieces(pc(6, 9, "a1")), changes(ch(0, 6, "a1", "."))},
		{pieces(pc(0, 6, "a1")), pieces(pc(0, 9, "a2")), changes(ch(0, 6, "a1", "a2"), ch(6, 9, ".", "a2"))},
		// Neighbouring times that differ in the same way are one change, in another way two.
		{pieces(pc(0, 2, "a1")), pieces(pc(0, 2, "a2")), changes(ch(0, 2, "a1", "a2"))},
		{pieces(pc(0, 2, "a1")), pieces(pc(0, 1, "a2"), pc(1, 2, "a3")), changes(ch(0, 1, "a1", "a2"), ch(1, 2, "a1", "a3"))},
		{pieces(pc(0, 1, "a2"), pc(1, 2, "a3")), pieces(pc(0, 2, "a1")), changes(ch(0, 1, "a2", "a1"), ch(1, 2, "a3", "a1"))},
		{pieces(pc(0, 1, "a1"), pc(1, 2, "a2")), pieces(pc(0, 1, "a2"), pc(1, 2, "a1")), changes(ch(0, 1, "a1", "a2"), ch(1, 2, "a2", "a1"))},
		{pieces(pc(0, 1, "a1"), pc(1, 2, "a2")), nil, changes(ch(0, 1, "a1", "."), ch(1, 2, "a2", "."))},
		{pieces(pc(0, 1, "a1"), pc(1, 2, "a2")), pieces(pc(0, 1, "a1")), changes(ch(1, 2, "a2", "."))},
		{pieces(pc(0, 1, "a1"), pc(1, 2, "a2"), pc(2, 3, "a1")), pieces(pc(0, 3, "a1")), changes(ch(1, 2, "a2", "a1"))},
		{pieces(pc(0, 3, "a1")), pieces(pc(0, 1, "a1"), pc(2, 3, "a1")), changes(ch(1, 2, "a1", "."))},
		// Fields are the same field by field, in whatever order they may be.
		{pieces(pc(0, 3, "a1 b1")), pieces(pc(0, 3, "b1 a1")), changes(ch(0, 3, "a1 b1", "b1 a1"))},
		{pieces(pc(0, 3, "a1 a1")), pieces(pc(0, 3, "a1")), changes(ch(0, 3, "a1 a1", "a1"))},
		{pieces(pc(0, 3, "a1 b2")), pieces(pc(0, 3, "a1 b3")), changes(ch(0, 3, "a1 b2", "a1 b3"))},
		// The least and greatest times.
		{nil, pieces(pc(-1<<40, 1<<40, "a1")), changes(ch(-1<<40, 1<<40, ".", "a1"))},
		{pieces(pc(-1<<40, 1<<40, "a1")), nil, changes(ch(-1<<40, 1<<40, "a1", "."))},
		{pieces(pc(-1<<40, 1<<40, "a1")), pieces(pc(-1<<40, 1<<40, "a1")), nil},
		{pieces(pc(-1<<40, 1<<40, "a1")), pieces(pc(-1<<40+1, 1<<40-1, "a1")), changes(ch(-1<<40, -1<<40+1, "a1", "."), ch(1<<40-1, 1<<40, "a1", "."))},
		{pieces(pc(-1<<40, -1<<40+1, "a1")), pieces(pc(1<<40-1, 1<<40, "a1")), changes(ch(-1<<40, -1<<40+1, "a1", "."), ch(1<<40-1, 1<<40, ".", "a1"))},
	} {
		if got := diff.Of(c.a, c.b); !sameChanges(got, c.want) {
			t.Errorf("Of(%v, %v) = %v, not %v", c.a, c.b, got, c.want)
		}
	}
}

// TestOfNone: nothing is told of lists of which either is no timeline.
func TestOfNone(t *testing.T) {
	for _, x := range none {
		for _, y := range append([][]api.Piece{nil, pieces(pc(0, 9, "a1")), pieces(pc(-1<<40, 1<<40, "a7"))}, none...) {
			if got := diff.Of(x, y); len(got) != 0 {
				t.Errorf("Of(%v, %v) = %v", x, y, got)
			}
			if got := diff.Of(y, x); len(got) != 0 {
				t.Errorf("Of(%v, %v) = %v", y, x, got)
			}
		}
	}
}

// faultThereAndBack goes from one timeline to another one by their changes, and back (P12.4).
func faultThereAndBack(a, b []api.Piece) string {
	l := diff.Of(a, b)
	if got, e := diff.Apply(a, l...); e != api.OK || !same(got, b) {
		return fmt.Sprintf("Apply(%v, %v) = %v, %d, not %v", a, l, got, e, b)
	}
	if got, e := diff.Apply(b, diff.Back(l...)...); e != api.OK || !same(got, a) {
		return fmt.Sprintf("Apply(%v, Back(%v)) = %v, %d, not %v", b, l, got, e, a)
	}
	if (len(l) == 0) != same(a, b) {
		return fmt.Sprintf("Of(%v, %v) = %v", a, b, l)
	}
	return ""
}

// faultOfWords holds Of of two words' timelines against the words of the chapter, and goes there and back by its changes.
func faultOfWords(from int, old, now string) string {
	a, b := line(from, old), line(from, now)
	if got, want := diff.Of(a, b), turned(from, old, now); !sameChanges(got, want) {
		return fmt.Sprintf("Of(%v, %v) = %v, not %v", a, b, got, want)
	}
	return faultThereAndBack(a, b)
}

// TestThereAndBack goes over all pairs of small timelines, and around 0 over those of one time more.
func TestThereAndBack(t *testing.T) {
	for _, from := range around(3) {
		long := 3
		if from == -2 {
			long = 4
		}
		all := words(".-12", long)
		for _, old := range all {
			for _, now := range all {
				if fault := faultOfWords(from, old, now); fault != "" {
					t.Fatal(fault)
				}
			}
		}
	}
}

// pick answers one of the things.
func pick[T any](r *rand.Rand, l []T) T { return l[r.Intn(len(l))] }

// Some fields, of which not all lists are right, and a state of none.
var someFields = []string{"", "a1", "a2", "b1", "a1 b1", "a1 a2", "b1 a1", "a0", "B-1 c3"}

// someTimeline answers any timeline of up to so many pieces, that begins around a time, or goes from one end of time to the other one.
func someTimeline(r *rand.Rand, many int) []api.Piece {
	at := pick(r, []int{-1 << 40, -1<<40 + 1, -5, 0, 3})
	var l []api.Piece
	for range r.Intn(many + 1) {
		p := pc(at, at+1+r.Intn(4), pick(r, someFields))
		if last := len(l) - 1; last >= 0 && r.Intn(3) == 0 || last >= 0 && slices.Equal(l[last].Fields, p.Fields) {
			p.Span.From++
			p.Span.To += 1 + r.Intn(3)
		}
		at = p.Span.To
		l = append(l, p)
	}
	if len(l) > 0 && r.Intn(6) == 0 {
		l[0].Span.From, l[len(l)-1].Span.To = -1<<40, 1<<40
	}
	return l
}

// spoilt answers a timeline, or what is left of it when one of its pieces was written over, or put in another place.
func spoilt(r *rand.Rand, l []api.Piece) []api.Piece {
	if len(l) == 0 || r.Intn(2) == 0 {
		return l
	}
	p := &l[r.Intn(len(l))]
	switch r.Intn(5) {
	case 0:
		p.Span = sp(pick(r, ends), pick(r, ends))
	case 1:
		p.Span = pick(r, strange)
	case 2:
		p.Fields = fs(pick(r, someFields))
	case 3:
		p.Span.To++
	case 4:
		r.Shuffle(len(l), func(i, k int) { l[i], l[k] = l[k], l[i] })
	}
	return l
}

// bordersOf answers the times at which what timelines have may change, and those just ahead and behind.
func bordersOf(lists ...[]api.Piece) []int {
	var times []int
	for _, p := range slices.Concat(lists...) {
		for _, t := range []int{p.Span.From, p.Span.To} {
			times = append(times, t-1, t, t+1)
		}
	}
	return times
}

// changeAt answers by the words of the chapter what is different at a time, as a change without a span, and whether there is something.
func changeAt(a, b []api.Piece, t int) (diff.Change, bool) {
	old, had := slowAt(a, t)
	now, has := slowAt(b, t)
	return diff.Change{Had: had, Has: has, Old: old, New: now}, had != has || !slices.Equal(old, now)
}

// faultOfOf holds Of against the words of the chapter.
func faultOfOf(a, b []api.Piece) string {
	got := diff.Of(a, b)
	if !slowRight(a) || !slowRight(b) {
		if len(got) != 0 {
			return fmt.Sprintf("Of(%v, %v) = %v", a, b, got)
		}
		return ""
	}
	times := bordersOf(a, b)
	for i, c := range got {
		if !right(c.Span) || i > 0 && got[i-1].Span.To > c.Span.From {
			return fmt.Sprintf("Of(%v, %v) = %v does not rise", a, b, got)
		}
		// A greater span would have a time at which one of both has something else.
		here, _ := changeAt(a, b, c.Span.From)
		for _, t := range []int{c.Span.From - 1, c.Span.To} {
			if there, ok := changeAt(a, b, t); ok && sameChange(here, there) {
				return fmt.Sprintf("Of(%v, %v) = %v: that at %d could be greater", a, b, got, c.Span.From)
			}
		}
		times = append(times, c.Span.From-1, c.Span.From, c.Span.To-1, c.Span.To)
	}
	for _, t := range times {
		want, differs := changeAt(a, b, t)
		at := slices.IndexFunc(got, func(c diff.Change) bool { return has(c.Span, t) })
		if (at >= 0) != differs {
			return fmt.Sprintf("Of(%v, %v) = %v: there is %t a change at %d", a, b, got, differs, t)
		}
		if at >= 0 {
			if want.Span = got[at].Span; !sameChange(got[at], want) {
				return fmt.Sprintf("Of(%v, %v) = %v: at %d it is %v", a, b, got, t, want)
			}
		}
	}
	return ""
}

// TestOfMany holds Of of any lists against the words of the chapter, and goes there and back by its changes.
func TestOfMany(t *testing.T) {
	r := rand.New(rand.NewSource(121))
	for range 40_000 {
		a, b := spoilt(r, someTimeline(r, 6)), spoilt(r, someTimeline(r, 6))
		if fault := faultOfOf(a, b); fault != "" {
			t.Fatal(fault)
		}
		if !slowRight(a) || !slowRight(b) {
			continue
		}
		if fault := faultThereAndBack(a, b); fault != "" {
			t.Fatal(fault)
		}
	}
}

func TestBack(t *testing.T) {
	for _, c := range []struct{ l, want []diff.Change }{
		{nil, nil},
		{changes(), nil},
		{changes(ch(2, 4, "a1", ".")), changes(ch(2, 4, ".", "a1"))},
		{changes(ch(2, 4, ".", "a1 b2")), changes(ch(2, 4, "a1 b2", "."))},
		{changes(ch(2, 4, "a1", "a2")), changes(ch(2, 4, "a2", "a1"))},
		{changes(ch(2, 4, "", ".")), changes(ch(2, 4, ".", ""))},
		{changes(ch(2, 4, ".", ".")), changes(ch(2, 4, ".", "."))},
		{changes(ch(2, 4, "a1", "a1")), changes(ch(2, 4, "a1", "a1"))},
		// They stay in their order, whatever it is.
		{changes(ch(0, 2, "a1", "."), ch(2, 4, "a1", "a2"), ch(7, 9, ".", "")), changes(ch(0, 2, ".", "a1"), ch(2, 4, "a2", "a1"), ch(7, 9, "", "."))},
		{changes(ch(7, 9, ".", "a1"), ch(0, 2, "b1", "."), ch(0, 2, "b1", ".")), changes(ch(7, 9, "a1", "."), ch(0, 2, ".", "b1"), ch(0, 2, ".", "b1"))},
		// Any changes whatever.
		{changes(diff.Change{}), changes(diff.Change{})},
		{changes(diff.Change{Span: sp(9, 3), Old: fs("b1 a1")}), changes(diff.Change{Span: sp(9, 3), New: fs("b1 a1")})},
		{changes(diff.Change{Span: sp(math.MinInt, math.MaxInt), Has: true, New: fs("A1")}), changes(diff.Change{Span: sp(math.MinInt, math.MaxInt), Had: true, Old: fs("A1")})},
	} {
		if got := diff.Back(c.l...); !sameChanges(got, c.want) {
			t.Errorf("Back(%v) = %v, not %v", c.l, got, c.want)
		}
	}
}

// someChange answers any change.
func someChange(r *rand.Rand) diff.Change {
	from := r.Intn(12) - 2
	c := ch(from, from+r.Intn(5), pick(r, append(someFields, ".", ".")), pick(r, append(someFields, ".", ".")))
	switch r.Intn(12) {
	case 0:
		c.Span = sp(pick(r, ends), pick(r, ends))
	case 1:
		c.Span = pick(r, strange)
	case 2:
		c.Had = !c.Had
	case 3:
		c.Has = !c.Has
	}
	return c
}

// TestBackOfMany: what was turned round twice is what it was.
func TestBackOfMany(t *testing.T) {
	r := rand.New(rand.NewSource(122))
	for range 10_000 {
		var l []diff.Change
		for range r.Intn(6) {
			l = append(l, someChange(r))
		}
		back := diff.Back(l...)
		if len(back) != len(l) {
			t.Fatalf("Back(%v) = %v", l, back)
		}
		for i, c := range l {
			if want := (diff.Change{Span: c.Span, Had: c.Has, Has: c.Had, Old: c.New, New: c.Old}); !sameChange(back[i], want) {
				t.Fatalf("Back(%v) = %v", l, back)
			}
		}
		if again := diff.Back(back...); !sameChanges(again, l) {
			t.Fatalf("Back(%v) = %v", back, again)
		}
	}
}
