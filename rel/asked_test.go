package rel_test

import (
	"fmt"
	"math"
	"math/rand"
	"slices"
	"testing"

	"erratum/api"
	"erratum/rel"
	"erratum/timeline"
)

// done answers a relation of commands that all are done, one behind the other.
func done(t *testing.T, l ...api.Command) *rel.Rel {
	t.Helper()
	r := rel.New()
	for i, c := range l {
		if n, e := r.Do(c); n != i+1 || e != api.OK {
			t.Fatalf("Do(%#v) = %d, %d", c, n, e)
		}
	}
	return r
}

// TestExample is the chapter's example.
func TestExample(t *testing.T) {
	r := done(t, appends("e", day, fs("a1")...), correct(1, day, fs("a2")...))
	for at, want := range []string{"", "a1", "a2"} {
		got, ok := r.AsOf("e", 0, at)
		if ok != (at > 0) || !slices.Equal(got, fs(want)) {
			t.Errorf("as of %d: %v, %t, not %s", at, got, ok, want)
		}
	}
}

// TestExamplesOfTheWhole are the document's examples 1 to 3, and 6.
func TestExamplesOfTheWhole(t *testing.T) {
	r := done(t, appends("e", day, fs("a1")...), correct(1, sp(0, 4), fs("a2")...), annul(1))
	if v, ok := r.Last(1); !ok || !sameVersion(v, gone(1, 3, "e")) {
		t.Errorf("the last one is %v, %t", v, ok)
	}
	for _, c := range []struct {
		t, at int
		want  string
		ok    bool
	}{
		{6, 1, "a1", true}, {6, 2, "", false}, {6, 3, "", false}, {3, 1, "a1", true}, {3, 2, "a2", true}, {3, 3, "", false},
	} {
		if got, ok := r.AsOf("e", c.t, c.at); ok != c.ok || !slices.Equal(got, fs(c.want)) {
			t.Errorf("AsOf(e, %d, %d) = %v, %t, not %s, %t", c.t, c.at, got, ok, c.want, c.ok)
		}
	}
	for n := -20; n < 20; n++ {
		if got, ok := r.AsOf("e", n, 3); ok || len(got) > 0 {
			t.Errorf("as of 3 e has at %d %v", n, got)
		}
	}
	r = done(t, appends("e", sp(0, 6), fs("a1")...), appends("e", sp(4, 8), fs("a2")...))
	if got := r.Range("e", sp(0, 10), 2); !same(got, []api.Piece{pc(0, 4, "a1"), pc(4, 8, "a2")}) {
		t.Errorf("Range is %v", got)
	}
}

func TestAsOf(t *testing.T) {
	r, _ := made(some()...)
	for _, c := range []struct {
		entity string
		t, at  int
		want   string
		ok     bool
	}{
		// Both ends of a span, and of when it lives.
		{"e", -1, 1, "", false}, {"e", 0, 1, "a1", true}, {"e", 8, 1, "a1", true}, {"e", 9, 1, "", false},
		{"e", 0, 2, "a1", true}, {"e", 0, 3, "", false}, {"e", 2, 3, "", false}, {"e", 3, 3, "a2 c3", true}, {"e", 11, 4, "a2 c3", true}, {"e", 12, 4, "", false},
		{"e", 0, 0, "", false}, {"e", 0, -1, "", false}, {"e", 0, math.MinInt, "", false},
		// Two events over each other, and what is left when one is moved, and when one is gone.
		{"e", 5, 5, "a2 c3", true}, {"e", 6, 5, "a5 c3", true}, {"e", 11, 299, "a5 c3", true}, {"e", 12, 299, "a5", true}, {"e", 19, 299, "a5", true}, {"e", 20, 299, "", false},
		{"e", 4, 300, "a2 b0 c3", true}, {"e", 5, 300, "a2 c3", true}, {"e", 12, 300, "", false}, {"e", 2, 300, "b0", true},
		{"e", 4, 69999, "a2 b0 c3", true}, {"e", 4, 70000, "b0", true}, {"e", 5, 70000, "", false},
		// Ends of time.
		{"e", -1 << 40, 299, "", false}, {"e", -1 << 40, 300, "b0", true}, {"e", -1<<40 - 1, 300, "", false}, {"e", math.MinInt, 300, "", false},
		{"g", 1<<40 - 1, 301, "", true}, {"g", 1<<40 - 2, 301, "", false}, {"g", 1 << 40, 301, "", false}, {"g", math.MaxInt, 301, "", false}, {"g", 1<<40 - 1, 300, "", false},
		{"g", 1<<40 - 1, 70000, "", true}, {"g", 1<<40 - 1, 70001, "", false}, {"g", 0, 70001, "a7", true}, {"g", 0, 70000, "", false},
		// An event that is gone.
		{"f", -5, 1, "", false}, {"f", -5, 2, "a1 b2", true}, {"f", -3, 5, "a1 b2", true}, {"f", -2, 5, "", false}, {"f", -5, 6, "", false}, {"f", -5, 70001, "", false}, {"f", 0, 6, "", false},
		// Stamps above Now: what is known up to now; at Forever, and above, no row lives.
		{"e", 0, 70002, "b0", true}, {"e", 0, 1<<40 - 1, "b0", true}, {"e", 0, 1<<62 - 1, "b0", true}, {"e", 0, 1 << 62, "", false}, {"e", 0, math.MaxInt, "", false},
		// No such entity, and such as may not be.
		{"E", 0, 1, "", false}, {"", 0, 1, "", false}, {"ee", 0, 1, "", false}, {"\xfe", 0, 9, "", false}, {tooLong, 0, 9, "", false},
		{"\xff", 0, 8, "", false}, {"\xff", 0, 9, "a1 b2 c3 d4 e5 f6 g7 h8", true}, {"\xff", -1 << 40, 70001, "a1 b2 c3 d4 e5 f6 g7 h8", true},
	} {
		if got, ok := r.AsOf(c.entity, c.t, c.at); ok != c.ok || !slices.Equal(got, fs(c.want)) {
			t.Errorf("AsOf(%q, %d, %d) = %v, %t, not %s, %t", c.entity, c.t, c.at, got, ok, c.want, c.ok)
		}
	}
}

func TestRange(t *testing.T) {
	r, _ := made(some()...)
	pieces := func(l ...api.Piece) []api.Piece { return l }
	all := api.Piece{Span: ever, Fields: eight}
	for _, c := range []struct {
		entity string
		a      api.Span
		at     int
		want   []api.Piece
	}{
		{"e", ever, 0, nil},
		{"e", ever, -1, nil},
		{"e", ever, 1, pieces(pc(0, 9, "a1"))},
		{"e", ever, 2, pieces(pc(0, 9, "a1"))},
		{"e", ever, 3, pieces(pc(3, 12, "a2 c3"))},
		{"e", ever, 5, pieces(pc(3, 6, "a2 c3"), pc(6, 12, "a5 c3"), pc(12, 20, "a5"))},
		{"e", sp(4, 13), 299, pieces(pc(4, 6, "a2 c3"), pc(6, 12, "a5 c3"), pc(12, 13, "a5"))},
		{"e", sp(5, 6), 299, pieces(pc(5, 6, "a2 c3"))},
		{"e", sp(20, 30), 299, nil},
		{"e", ever, 300, pieces(pc(-1<<40, 3, "b0"), pc(3, 5, "a2 b0 c3"), pc(5, 12, "a2 c3"))},
		{"e", ever, 69999, pieces(pc(-1<<40, 3, "b0"), pc(3, 5, "a2 b0 c3"), pc(5, 12, "a2 c3"))},
		{"e", ever, 70000, pieces(pc(-1<<40, 5, "b0"))},
		{"e", ever, 1<<62 - 1, pieces(pc(-1<<40, 5, "b0"))},
		{"e", ever, 1 << 62, nil},
		{"e", ever, math.MaxInt, nil},
		{"e", ever, math.MinInt, nil},
		{"e", sp(-1<<40, -1<<40+1), 300, pieces(pc(-1<<40, -1<<40+1, "b0"))},
		{"f", ever, 1, nil},
		{"f", ever, 5, pieces(pc(-5, -2, "a1 b2"))},
		{"f", ever, 6, nil},
		{"f", sp(0, 1), 6, nil},
		{"g", ever, 301, pieces(pc(1<<40-1, 1<<40, ""))},
		{"g", sp(1<<40-1, 1<<40), 70000, pieces(pc(1<<40-1, 1<<40, ""))},
		{"g", sp(0, 1<<40-1), 70000, nil},
		{"g", ever, 70001, pieces(pc(0, 9, "a7"))},
		{"\xff", ever, 9, pieces(all)},
		{"\xff", ever, 8, nil},
		{"", ever, 9, nil},
		{"E", ever, 9, nil},
		{tooLong, ever, 9, nil},
		// Spans that are not right.
		{"e", api.Span{}, 1, nil},
		{"e", sp(3, 3), 1, nil},
		{"e", sp(5, 3), 1, nil},
		{"e", sp(-1<<40-1, 5), 1, nil},
		{"e", sp(0, 1<<40+1), 1, nil},
		{"\xff", sp(math.MinInt, math.MaxInt), 9, nil},
	} {
		if got := r.Range(c.entity, c.a, c.at); !same(got, c.want) {
			t.Errorf("Range(%q, %v, %d) = %v, not %v", c.entity, c.a, c.at, got, c.want)
		}
	}
}

func TestHistoryAndAudit(t *testing.T) {
	r, l := made(some()...)
	for _, c := range []struct {
		id, since, at int
		want          []api.Version
	}{
		{1, 0, 70001, list(l[0], l[2], l[8])},
		{1, 0, 70000, list(l[0], l[2], l[8])},
		{1, 0, 69999, list(l[0], l[2])},
		{1, 0, 3, list(l[0], l[2])},
		{1, 0, 2, list(l[0])},
		{1, 0, 1, list(l[0])},
		{1, 0, 0, nil},
		{1, 1, 3, list(l[2])},
		{1, 2, 3, list(l[2])},
		{1, 3, 3, nil},
		{1, 3, 70001, list(l[8])},
		{1, 70000, 70001, nil},
		{1, -1, 1, list(l[0])},
		{1, -5, -1, nil},
		{1, math.MinInt, math.MaxInt, list(l[0], l[2], l[8])},
		{1, math.MaxInt, math.MinInt, nil},
		{1, math.MaxInt, math.MaxInt, nil},
		{1, math.MinInt, math.MinInt, nil},
		{1, 3, 1, nil},
		{1, 3, 2, nil},
		{1, 70001, 0, nil},
		{5, 0, 1 << 62, list(l[3], l[6])},
		{5, 5, 300, list(l[6])},
		{2, 0, 6, list(l[1], l[4])},
		{3, 0, 70001, nil},
		{0, math.MinInt, math.MaxInt, nil},
		{-1, math.MinInt, math.MaxInt, nil},
		{70001, 0, 70001, nil},
		{math.MaxInt, 0, 70001, nil},
		{math.MinInt, 0, 70001, nil},
	} {
		if got := r.History(c.id, c.since, c.at); !sameVersions(got, c.want) {
			t.Errorf("History(%d, %d, %d) = %v, not %v", c.id, c.since, c.at, got, c.want)
		}
	}
	for _, c := range []struct {
		since, at int
		want      []api.Version
	}{
		{0, 70001, l},
		{math.MinInt, math.MaxInt, l},
		{-1, 1, l[:1]},
		{0, 0, nil},
		{0, 1, l[:1]},
		{1, 1, nil},
		{1, 2, l[1:2]},
		{0, 4, l[:3]},
		{4, 5, l[3:4]},
		{3, 6, l[3:5]},
		{6, 8, nil},
		{7, 8, nil},
		{8, 9, l[5:6]},
		{300, 70000, l[7:9]},
		{69999, 70002, l[8:]},
		{70001, 70001, nil},
		{70001, 1 << 62, nil},
		{70002, math.MaxInt, nil},
		{5, 3, nil},
		{70001, 0, nil},
		{-1, -5, nil},
		{-5, -1, nil},
		{math.MaxInt, math.MinInt, nil},
	} {
		if got := r.Audit(c.since, c.at); !sameVersions(got, c.want) {
			t.Errorf("Audit(%d, %d) = %v, not %v", c.since, c.at, got, c.want)
		}
	}
}

// TestRows: each row's Until is the Stamp of the next one of the same ID, whatever comes in between.
func TestRows(t *testing.T) {
	r, l := made(some()...)
	want := []int{3, 6, 70000, 300, 1 << 62, 1 << 62, 1 << 62, 70001, 1 << 62, 1 << 62}
	got := r.Rows()
	if len(got) != len(want) {
		t.Fatalf("%d rows", len(got))
	}
	for i := range got {
		if !sameVersion(got[i].Version, l[i]) || got[i].Until != want[i] {
			t.Errorf("the %d-th row is %v, not %v until %d", i, got[i], l[i], want[i])
		}
	}
}

// TestEntities: byte by byte, each once, those of events that are gone, too.
func TestEntities(t *testing.T) {
	r := rel.New()
	for i, c := range []struct {
		entity string
		want   []string
	}{
		{"e", []string{"e"}},
		{"e", []string{"e"}},
		{"\xff", []string{"e", "\xff"}},
		{"é", []string{"e", "é", "\xff"}},
		{"ea", []string{"e", "ea", "é", "\xff"}},
		{"E", []string{"E", "e", "ea", "é", "\xff"}},
		{"\x00", []string{"\x00", "E", "e", "ea", "é", "\xff"}},
		{"e\x00", []string{"\x00", "E", "e", "e\x00", "ea", "é", "\xff"}},
		{"\x80", []string{"\x00", "E", "e", "e\x00", "ea", "\x80", "é", "\xff"}},
		{"\x7f", []string{"\x00", "E", "e", "e\x00", "ea", "\x7f", "\x80", "é", "\xff"}},
		{"e", []string{"\x00", "E", "e", "e\x00", "ea", "\x7f", "\x80", "é", "\xff"}},
	} {
		if n, e := r.Do(appends(c.entity, day)); n != 2*i+1 || e != api.OK {
			t.Fatal(n, e)
		}
		if n, e := r.Do(annul(2*i + 1)); n != 2*i+2 || e != api.OK {
			t.Fatal(n, e)
		}
		if got := r.Entities(); !slices.Equal(got, c.want) {
			t.Errorf("behind %q: %q, not %q", c.entity, got, c.want)
		}
	}
}

// toldAsOf writes down what is asked of a stamp, of all that the relation may ever have; since is not above it.
func toldAsOf(r *rel.Rel, q asked, at int) string {
	told := ""
	for _, entity := range q.entities {
		for _, t := range q.times {
			fields, ok := r.AsOf(entity, t, at)
			told += fmt.Sprintln("as of", entity, t, fields, ok)
		}
		for _, a := range q.spans {
			told += fmt.Sprintln("range", entity, a, r.Range(entity, a, at))
		}
	}
	for _, since := range q.stamps {
		if since > at {
			continue
		}
		told += fmt.Sprintln("audit", since, r.Audit(since, at))
		for _, id := range q.ids {
			told += fmt.Sprintln("history", since, id, r.History(id, since, at))
		}
	}
	return told
}

// TestStays: what is asked of a stamp that is not above Now is told the same behind whatever is recorded then.
func TestStays(t *testing.T) {
	r := rand.New(rand.NewSource(155))
	for range 60 {
		q := asked{
			ids: []int{1, 2, 3, 4, 5}, times: []int{-1 << 40, -3, -1, 0, 2, 4, 6, 8, 1<<40 - 1}, stamps: []int{0, 1, 2, 3, 5, 8},
			spans: []api.Span{ever, sp(-3, 4), sp(2, 9)}, entities: []string{"e", "f", "\xff"},
		}
		told := map[int]string{}
		grown(t, r, 14, func(a *rel.Rel, l slow) {
			// What was told ahead is told still, and of what is not above Now by now it is written down.
			for at, was := range told {
				if is := toldAsOf(a, q, at); is != was {
					t.Fatalf("behind %v: as of %d is told\n%s and not\n%s", []api.Version(l), at, is, was)
				}
			}
			stamps := []int{0, a.Now() / 2, a.Now() - 1, a.Now()}
			for _, v := range l {
				stamps = append(stamps, v.Stamp)
			}
			for _, at := range stamps {
				if _, there := told[at]; !there && at >= 0 {
					told[at] = toldAsOf(a, q, at)
				}
			}
		})
	}
}

// TestAgrees: AsOf tells at each time what Range has there.
func TestAgrees(t *testing.T) {
	r := rand.New(rand.NewSource(156))
	for range 60 {
		var last *rel.Rel
		var list slow
		grown(t, r, 25, func(a *rel.Rel, l slow) { last, list = a, l })
		q := about(list)
		for _, entity := range q.entities {
			for _, at := range append(q.stamps, -1, 1<<62, math.MaxInt) {
				whole := last.Range(entity, ever, at)
				for _, n := range append(q.times, -1<<40-1, -1<<40, 1<<40-1, 1<<40, math.MinInt, math.MaxInt) {
					fields, ok := last.AsOf(entity, n, at)
					if has, there := timeline.At(whole, n); ok != there || !slices.Equal(fields, has) {
						t.Fatalf("of %v: AsOf(%q, %d, %d) is %v, %t, and Range has %v, %t", []api.Version(list), entity, n, at, fields, ok, has, there)
					}
					// A range of that time alone has it, too.
					if one := last.Range(entity, sp(n, n+1), at); ok != (len(one) == 1) || ok && !slices.Equal(fields, one[0].Fields) {
						t.Fatalf("of %v: AsOf(%q, %d, %d) is %v, %t, and Range of that time %v", []api.Version(list), entity, n, at, fields, ok, one)
					}
				}
			}
		}
	}
}
