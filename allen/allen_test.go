package allen_test

import (
	"fmt"
	"math"
	"slices"
	"testing"

	"erratum/allen"
	"erratum/api"
)

// every is the set of all relations.
const every = 8191

// sp makes a span's writing short, right or not.
func sp(from, to int) api.Span { return api.Span{From: from, To: to} }

// set makes a set of relations of their numbers.
func set(l ...int) int {
	x := 0
	for _, r := range l {
		x |= 1 << r
	}
	return x
}

// noRelations are numbers that no relation has.
var noRelations = []int{-1, -2, -12, -13, 13, 14, 63, 64, 65, 1 << 32, -1 << 32, math.MinInt, math.MinInt + 12, math.MaxInt - 1, math.MaxInt}

// wrong are spans that are not right, each for a reason of its own.
var wrong = []api.Span{
	{},
	sp(5, 5),
	sp(5, 4),
	sp(api.MinTime, api.MinTime),
	sp(api.MaxTime, api.MaxTime),
	sp(api.MaxTime, api.MinTime),
	sp(api.MinTime-1, 0),
	sp(0, api.MaxTime+1),
	sp(api.MinTime-2, api.MinTime-1),
	sp(api.MaxTime+1, api.MaxTime+2),
	sp(0, api.Forever),
	sp(math.MinInt, math.MaxInt),
	sp(math.MaxInt, math.MinInt),
	sp(math.MinInt, math.MinInt),
	sp(math.MaxInt, math.MaxInt),
	sp(math.MinInt, 0),
	sp(0, math.MaxInt),
}

// holds tells by the words of the chapter whether a right span has a relation to another one.
func holds(r int, a, b api.Span) bool {
	switch r {
	case 0:
		return a.To < b.From
	case 1:
		return a.To == b.From
	case 2:
		return a.From < b.From && b.From < a.To && a.To < b.To
	case 3:
		return a.From == b.From && a.To < b.To
	case 4:
		return a.From > b.From && a.To < b.To
	case 5:
		return a.From > b.From && a.To == b.To
	case 6:
		return a == b
	}
	return holds(12-r, b, a)
}

// spans answers all right spans whose ends are from first to last.
func spans(first, last int) []api.Span {
	var l []api.Span
	for from := first; from < last; from++ {
		for to := from + 1; to <= last; to++ {
			l = append(l, sp(from, to))
		}
	}
	return l
}

// composed is what Compose must tell, by all spans over six times: that many ends have three spans.
var composed = func() (table [13][13]int) {
	l := spans(0, 5)
	related := func(a, b api.Span) int {
		r := 0
		for !holds(r, a, b) {
			r++
		}
		return r
	}
	for _, a := range l {
		for _, b := range l {
			for _, c := range l {
				table[related(a, b)][related(b, c)] |= 1 << related(a, c)
			}
		}
	}
	return table
}()

// followed is what Follow must tell, by composed.
func followed(x, y int) int {
	z := 0
	for r, row := range composed {
		for s, c := range row {
			if x&(1<<r) != 0 && y&(1<<s) != 0 {
				z |= c
			}
		}
	}
	return z
}

// turned is what Turn must tell.
func turned(x int) int {
	z := 0
	for r := range 13 {
		if x&(1<<r) != 0 {
			z |= 1 << (12 - r)
		}
	}
	return z
}

// dice makes numbers that look thrown, always the same ones.
type dice uint64

func (d *dice) below(n int) int {
	*d = *d*6364136223846793005 + 1442695040888963407
	return int(uint64(*d)>>33) % n
}

// dirty puts bits that no relation has into a set.
func (d *dice) dirty(x int) int {
	for range d.below(4) {
		x |= 1 << (13 + d.below(51))
	}
	return x
}

func TestOfEachRelation(t *testing.T) {
	b := sp(10, 20)
	for r, a := range []api.Span{
		sp(0, 5), sp(5, 10), sp(5, 15), sp(10, 15), sp(12, 18), sp(15, 20), sp(10, 20),
		sp(5, 20), sp(5, 25), sp(10, 25), sp(15, 25), sp(20, 25), sp(25, 30),
	} {
		if got, ok := allen.Of(a, b); got != r || !ok {
			t.Errorf("Of(%v, %v) = %d, %v, not %d", a, b, got, ok, r)
		}
		if got, ok := allen.Of(b, a); got != 12-r || !ok {
			t.Errorf("Of(%v, %v) = %d, %v, not %d", b, a, got, ok, 12-r)
		}
	}
	if r, ok := allen.Of(sp(0, 2), sp(2, 3)); r != 1 || !ok {
		t.Errorf("the chapter's example: %d, %v", r, ok)
	}
}

// TestOfIsTheOneThatHolds holds Of against the words, at spans around the middle and both ends of time:
// just one relation holds, and it is told.
func TestOfIsTheOneThatHolds(t *testing.T) {
	l := slices.Concat(spans(api.MinTime, api.MinTime+4), spans(-3, 3), spans(api.MaxTime-4, api.MaxTime))
	l = append(l, sp(api.MinTime, api.MaxTime), sp(api.MinTime, 0), sp(0, api.MaxTime))
	for _, a := range l {
		for _, b := range l {
			got, ok := allen.Of(a, b)
			if !ok {
				t.Fatalf("Of(%v, %v) tells none", a, b)
			}
			for r := range 13 {
				if holds(r, a, b) != (r == got) {
					t.Fatalf("Of(%v, %v) = %d; holds %d: %v", a, b, got, r, holds(r, a, b))
				}
			}
		}
	}
}

func TestOfWrongSpans(t *testing.T) {
	right := []api.Span{sp(0, 1), sp(4, 6), sp(api.MinTime, api.MaxTime)}
	for _, w := range wrong {
		for _, a := range slices.Concat(right, wrong) {
			if r, ok := allen.Of(a, w); r != 0 || ok {
				t.Errorf("Of(%v, %v) = %d, %v", a, w, r, ok)
			}
			if r, ok := allen.Of(w, a); r != 0 || ok {
				t.Errorf("Of(%v, %v) = %d, %v", w, a, r, ok)
			}
		}
	}
}

func TestBack(t *testing.T) {
	for r := range 13 {
		if got := allen.Back(r); got != 12-r {
			t.Errorf("Back(%d) = %d", r, got)
		}
	}
	for _, r := range noRelations {
		if got := allen.Back(r); got != -1 {
			t.Errorf("Back(%d) = %d", r, got)
		}
	}
}

func TestName(t *testing.T) {
	for r, want := range []string{
		"before", "meets", "overlaps", "starts", "during", "finishes", "equals",
		"finished", "contains", "started", "overlapped", "met", "after",
	} {
		if got := allen.Name(r); got != want {
			t.Errorf("Name(%d) = %q, not %q", r, got, want)
		}
	}
	for _, r := range noRelations {
		if got := allen.Name(r); got != "" {
			t.Errorf("Name(%d) = %q", r, got)
		}
	}
}

// TestComposeAtPlaces: places of Allen's table, that were taken by hand.
func TestComposeAtPlaces(t *testing.T) {
	for _, c := range []struct{ r, s, want int }{
		{0, 0, set(0)},
		{0, 12, every},
		{12, 0, every},
		{1, 1, set(0)},
		{1, 11, set(5, 6, 7)},
		{11, 1, set(3, 6, 9)},
		{2, 2, set(0, 1, 2)},
		{2, 10, set(2, 3, 4, 5, 6, 7, 8, 9, 10)},
		{3, 3, set(3)},
		{3, 9, set(3, 6, 9)},
		{3, 5, set(4)},
		{4, 4, set(4)},
		{4, 8, every},
		{8, 4, set(2, 3, 4, 5, 6, 7, 8, 9, 10)},
		{5, 7, set(5, 6, 7)},
		{0, 4, set(0, 1, 2, 3, 4)},
		{12, 12, set(12)},
	} {
		if got := allen.Compose(c.r, c.s); got != c.want {
			t.Errorf("Compose(%d, %d) = %b, not %b", c.r, c.s, got, c.want)
		}
	}
	for r := range 13 {
		if allen.Compose(6, r) != 1<<r || allen.Compose(r, 6) != 1<<r {
			t.Errorf("Compose of equals and %d: %b, %b", r, allen.Compose(6, r), allen.Compose(r, 6))
		}
	}
}

// TestComposeIsWhatSpansHave holds Compose against spans, at all pairs.
func TestComposeIsWhatSpansHave(t *testing.T) {
	for r, row := range composed {
		for s, want := range row {
			if got := allen.Compose(r, s); got != want {
				t.Errorf("Compose(%d, %d) = %b, not %b", r, s, got, want)
			}
		}
	}
}

func TestComposeOfNone(t *testing.T) {
	for _, r := range noRelations {
		for s := range 13 {
			if a, b := allen.Compose(r, s), allen.Compose(s, r); a != 0 || b != 0 {
				t.Errorf("Compose of %d and %d = %b, %b", r, s, a, b)
			}
		}
		for _, s := range noRelations {
			if a := allen.Compose(r, s); a != 0 {
				t.Errorf("Compose(%d, %d) = %b", r, s, a)
			}
		}
	}
}

func TestTurn(t *testing.T) {
	for x := range every + 1 {
		got := allen.Turn(x)
		if got != turned(x) || allen.Turn(got) != x {
			t.Fatalf("Turn(%b) = %b", x, got)
		}
		for _, other := range []int{1 << 13, 1 << 62, math.MinInt, math.MinInt | 1<<40, ^every} {
			if allen.Turn(x|other) != got {
				t.Fatalf("Turn(%b) = %b", x|other, allen.Turn(x|other))
			}
		}
	}
	for x, want := range map[int]int{
		0: 0, -1: every, every: every, math.MaxInt: every, math.MinInt: 0, 1 << 13: 0, ^every: 0,
		1: 1 << 12, 64: 64, 3: 3 << 11, -2: every &^ (1 << 12),
	} {
		if got := allen.Turn(x); got != want {
			t.Errorf("Turn(%d) = %b, not %b", x, got, want)
		}
	}
}

func TestFollowAtPlaces(t *testing.T) {
	for _, c := range []struct{ x, y, want int }{
		{0, 0, 0},
		{0, every, 0},
		{every, 0, 0},
		{every, every, every},
		{-1, -1, every},
		{-1, 0, 0},
		{math.MinInt, -1, 0},
		{1 << 13, every, 0},
		{every, ^every, 0},
		{math.MaxInt, 64, every},
		{math.MinInt | 64, 1<<13 | 2, 2},
		{set(0, 1), set(1), set(0)},
		{set(3, 6), set(3, 6), set(3, 6)},
		{set(3), set(3, 9), set(3, 6, 9)},
		{set(1, 2), set(11, 6), set(5, 6, 7, 1, 10, 9, 8, 2)},
	} {
		if got := allen.Follow(c.x, c.y); got != c.want {
			t.Errorf("Follow(%d, %d) = %b, not %b", c.x, c.y, got, c.want)
		}
	}
}

// TestFollowIsAllOfCompose holds Follow against composed, with and without bits that no relation has, and turned.
func TestFollowIsAllOfCompose(t *testing.T) {
	for r := range 13 {
		for s := range 13 {
			if got := allen.Follow(1<<r, 1<<s); got != composed[r][s] {
				t.Errorf("Follow of %d and %d = %b, not %b", r, s, got, composed[r][s])
			}
		}
	}
	d := dice(1)
	for range 20000 {
		x, y := d.below(every+1)&d.below(every+1), d.below(every+1)&d.below(every+1)
		if fault := followFault(x, y, d.dirty(x), d.dirty(y)); fault != "" {
			t.Fatal(fault)
		}
	}
}

func followFault(x, y, dirtyX, dirtyY int) string {
	want := followed(x, y)
	if got := allen.Follow(dirtyX, dirtyY); got != want {
		return fmt.Sprintf("Follow(%b, %b) = %b, not %b", dirtyX, dirtyY, got, want)
	}
	if a, b := allen.Turn(want), allen.Follow(allen.Turn(dirtyY), allen.Turn(dirtyX)); a != b {
		return fmt.Sprintf("x %b, y %b: turned %b, of what is turned %b", x, y, a, b)
	}
	return ""
}
