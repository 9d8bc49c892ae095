package rel_test

import (
	"fmt"
	"math"
	"math/rand"
	"slices"
	"testing"

	"erratum/api"
	"erratum/command"
	"erratum/rel"
	"erratum/sketch"
	"erratum/timeline"
	"erratum/version"
)

// Short names of what these tests are written with.
var (
	fl, fs, sp, pc            = sketch.Field, sketch.Fields, sketch.Span, sketch.Piece
	vs, gone, row             = sketch.Version, sketch.Gone, sketch.Row
	appends, correct, annul   = sketch.Append, sketch.Correct, sketch.Annul
	sameVersion, sameVersions = sketch.SameVersion, sketch.SameVersions
	same, sameRows            = sketch.Same, sketch.SameRows
)

// Entities of as many bytes as one may have, and of one more; spans that are right; and more fields than a version may have, and as many.
const mostBytes, tooLong = sketch.MostBytes, sketch.TooLong

var (
	day, ever   = sketch.Day(), sketch.Ever()
	nine, eight = sketch.Nine(), sketch.Nine()[:8]
)

// list and rows make the writing of lists short.
func list(l ...api.Version) []api.Version { return l }

func rows(l ...api.Row) []api.Row { return l }

// pick answers one of the things.
func pick[T any](r *rand.Rand, l []T) T { return l[r.Intn(len(l))] }

// slow is a relation as the list of its versions, that is gone over for each question by the words of the chapter.
type slow []api.Version

func (l slow) now() int {
	greatest := 0
	for _, v := range l {
		greatest = max(greatest, v.Stamp)
	}
	return greatest
}

// between answers the versions that are meant, whose Stamp is above since, and not above at.
func (l slow) between(since, at int, meant func(v api.Version) bool) []api.Version {
	var told []api.Version
	for _, v := range l {
		if v.Stamp > since && v.Stamp <= at && meant(v) {
			told = append(told, v)
		}
	}
	return told
}

// of means the versions of an ID, and every all versions.
func of(id int) func(v api.Version) bool { return func(v api.Version) bool { return v.ID == id } }

func every(api.Version) bool { return true }

func (l slow) last(id int) (api.Version, bool) {
	all := l.between(0, math.MaxInt, of(id))
	if len(all) == 0 {
		return api.Version{}, false
	}
	return all[len(all)-1], true
}

// put answers the relation with the version, or as it is, and what is wrong.
func (l slow) put(v api.Version) (slow, api.Errno) {
	if e := version.Right(v); e != api.OK {
		return l, e
	}
	if v.Stamp <= l.now() {
		return l, api.ErrOrder
	}
	if v.ID != v.Stamp {
		last, there := l.last(v.ID)
		if !there {
			return l, api.ErrNone
		}
		if last.Gone {
			return l, api.ErrGone
		}
		if last.Entity != v.Entity {
			return l, api.ErrForm
		}
	}
	return append(slices.Clone(l), sketch.CopyVersions(list(v))...), api.OK
}

// do answers the relation with the version that the command makes, or as it is, and what is wrong.
func (l slow) do(c api.Command) (slow, int, api.Errno) {
	last, there := l.last(c.Target)
	v, e := command.Make(l.now(), last, there, c)
	if e != api.OK {
		return l, 0, e
	}
	return append(slices.Clone(l), v), v.Stamp, api.OK
}

func (l slow) rows() []api.Row {
	var told []api.Row
	for i, v := range l {
		until := 1 << 62
		for _, w := range slices.Backward(l[i+1:]) {
			if w.ID == v.ID {
				until = w.Stamp
			}
		}
		told = append(told, row(v, until))
	}
	return told
}

// living answers the versions of an entity that live at the stamp.
func (l slow) living(entity string, at int) []api.Version {
	var told []api.Version
	for _, r := range l.rows() {
		if v := r.Version; v.Entity == entity && !v.Gone && v.Stamp <= at && at < r.Until {
			told = append(told, v)
		}
	}
	return told
}

func (l slow) entities() []string {
	var told []string
	for _, v := range l {
		told = append(told, v.Entity)
	}
	slices.SortFunc(told, func(a, b string) int { return slices.Compare([]byte(a), []byte(b)) })
	return slices.Compact(told)
}

// asked is what a relation is asked about.
type asked struct {
	ids, stamps, times []int
	spans              []api.Span
	entities           []string
}

// sorted answers the numbers, rising, each once.
func sorted(l []int) []int {
	slices.Sort(l)
	return slices.Compact(l)
}

// about answers what there is to be asked about a relation: all that it has, and what lies just beside that.
func about(l slow) asked {
	q := asked{
		ids: []int{-1, 0}, stamps: []int{0}, times: []int{0}, spans: []api.Span{ever},
		entities: append(l.entities(), "", "e", "no entity"),
	}
	for _, v := range l {
		q.ids = append(q.ids, v.ID, v.Stamp, v.Stamp+1)
		q.stamps = append(q.stamps, v.Stamp-1, v.Stamp, v.Stamp+1)
		q.times = append(q.times, v.Span.From-1, v.Span.From, v.Span.To-1, v.Span.To)
		q.spans = append(q.spans, v.Span, sp(v.Span.From+1, v.Span.To+3))
	}
	q.ids, q.stamps, q.times = sorted(q.ids), sorted(q.stamps), sorted(q.times)
	slices.SortFunc(q.spans, func(a, b api.Span) int { return slices.Compare([]int{a.From, a.To}, []int{b.From, b.To}) })
	q.spans = slices.Compact(q.spans)
	return q
}

// wide answers the same, and besides that the ends of all that may be given to a call.
func (q asked) wide() asked {
	ends := append(sketch.Ends(), -8, -9, 1<<62-1, 1<<62+1)
	q.ids, q.stamps, q.times = sorted(slices.Concat(q.ids, ends)), sorted(slices.Concat(q.stamps, ends)), sorted(slices.Concat(q.times, ends))
	q.spans = slices.Concat(q.spans, sketch.Strange(), []api.Span{sp(-1<<40, -1<<40+1), sp(1<<40-1, 1<<40), sp(-1<<40, 0), sp(0, 1<<40)})
	q.entities = append(q.entities, mostBytes, tooLong, "\x00", "\xff")
	return q
}

// faultOfList tells what is wrong with what is told without a stamp.
func (q asked) faultOfList(r *rel.Rel, l slow) string {
	if got := r.Now(); got != l.now() {
		return fmt.Sprintf("Now is %d, not %d", got, l.now())
	}
	for _, id := range q.ids {
		got, ok := r.Last(id)
		if want, there := l.last(id); ok != there || !sameVersion(got, want) {
			return fmt.Sprintf("Last(%d) is %v, %t, not %v, %t", id, got, ok, want, there)
		}
	}
	if got, want := r.Rows(), l.rows(); !sameRows(got, want) {
		return fmt.Sprintf("Rows is %v, not %v", got, want)
	}
	if got, want := r.Entities(), l.entities(); !slices.Equal(got, want) {
		return fmt.Sprintf("Entities is %q, not %q", got, want)
	}
	return ""
}

// faultOfBetween tells what is wrong with what is told between stamps.
func (q asked) faultOfBetween(r *rel.Rel, l slow) string {
	for _, since := range q.stamps {
		for _, at := range q.stamps {
			if got, want := r.Audit(since, at), l.between(since, at, every); !sameVersions(got, want) {
				return fmt.Sprintf("Audit(%d, %d) is %v, not %v", since, at, got, want)
			}
			for _, id := range q.ids {
				if got, want := r.History(id, since, at), l.between(since, at, of(id)); !sameVersions(got, want) {
					return fmt.Sprintf("History(%d, %d, %d) is %v, not %v", id, since, at, got, want)
				}
			}
		}
	}
	return ""
}

// faultOfAt tells what is wrong with what is told of an entity as of a stamp.
func (q asked) faultOfAt(r *rel.Rel, l slow, entity string, at int) string {
	living := l.living(entity, at)
	var borders []int
	for _, v := range living {
		borders = append(borders, v.Span.From, v.Span.To)
	}
	for _, t := range q.times {
		got, ok := r.AsOf(entity, t, at)
		if want, there := sketch.Made(living, t); ok != there || !slices.Equal(got, want) {
			return fmt.Sprintf("AsOf(%q, %d, %d) is %v, %t, not %v, %t", entity, t, at, got, ok, want, there)
		}
	}
	for _, a := range q.spans {
		got := r.Range(entity, a, at)
		if !sketch.Timeline(got) {
			return fmt.Sprintf("Range(%q, %v, %d) is no timeline: %v", entity, a, at, got)
		}
		t, unlike := sketch.Unlike(got, append(borders, a.From, a.To), func(t int) ([]api.Field, bool) {
			if !sketch.Has(a, t) {
				return nil, false
			}
			return sketch.Made(living, t)
		})
		if unlike {
			return fmt.Sprintf("Range(%q, %v, %d) is wrong at %d: %v, of %v", entity, a, at, t, got, living)
		}
	}
	return ""
}

// fault tells what is wrong with what a relation tells, or nothing.
func (q asked) fault(r *rel.Rel, l slow) string {
	fault := q.faultOfList(r, l)
	if fault == "" {
		fault = q.faultOfBetween(r, l)
	}
	for _, entity := range q.entities {
		for _, at := range q.stamps {
			if fault == "" {
				fault = q.faultOfAt(r, l, entity, at)
			}
		}
	}
	if fault != "" {
		return fmt.Sprintf("of %v: %s", []api.Version(l), fault)
	}
	return ""
}

// faultOf tells what is wrong with what a relation tells that has the versions, at all that they have and just beside that; and faultAtEnds also at the ends of all.
func faultOf(r *rel.Rel, l slow) string { return about(l).fault(r, l) }

func faultAtEnds(r *rel.Rel, l slow) string { return about(l).wide().fault(r, l) }

// made answers a relation of the versions, and the slow one.
func made(l ...api.Version) (*rel.Rel, slow) {
	r := rel.New()
	for _, v := range l {
		if e := r.Put(v); e != api.OK {
			panic(fmt.Sprintf("Put of %v: %d", v, e))
		}
	}
	return r, sketch.CopyVersions(l)
}

// some are the versions of a relation: of the events 1 to 5, two of one entity, some corrected, some annulled, and of Stamps some of which lie far apart.
func some() []api.Version {
	return list(
		vs(1, 1, "e", day, fs("a1")...),
		vs(2, 2, "f", sp(-5, -2), fs("a1 b2")...),
		vs(1, 3, "e", sp(3, 12), fs("a2 c3")...),
		vs(5, 5, "e", sp(6, 20), fs("a5")...),
		gone(2, 6, "f"),
		vs(9, 9, "\xff", ever, eight...),
		vs(5, 300, "e", sp(-1<<40, 5), fs("b0")...),
		vs(301, 301, "g", sp(1<<40-1, 1<<40)),
		gone(1, 70000, "e"),
		vs(301, 70001, "g", day, fs("a7")...),
	)
}

func TestEmpty(t *testing.T) {
	r := rel.New()
	if r == nil {
		t.Fatal("New is nil")
	}
	if fault := faultAtEnds(r, nil); fault != "" {
		t.Error(fault)
	}
}

// TestNow: behind each kind of version Now is its Stamp.
func TestNow(t *testing.T) {
	r := rel.New()
	if now := r.Now(); now != 0 {
		t.Errorf("of nothing Now is %d", now)
	}
	for _, v := range append(some(), vs(1<<40-3, 1<<40-3, "e", day), vs(1<<40-3, 1<<40-2, "e", ever), gone(1<<40-3, 1<<40-1, "e")) {
		if e := r.Put(v); e != api.OK {
			t.Fatalf("Put of %v: %d", v, e)
		}
		if now := r.Now(); now != v.Stamp {
			t.Errorf("behind %v Now is %d", v, now)
		}
	}
}

// TestSome holds all that is told of a relation against the words of the chapter, behind each of its versions.
func TestSome(t *testing.T) {
	r := rel.New()
	for i, v := range some() {
		if e := r.Put(v); e != api.OK {
			t.Fatalf("Put of %v: %d", v, e)
		}
		if fault := faultAtEnds(r, some()[:i+1]); fault != "" {
			t.Fatal(fault)
		}
	}
}

// refused are versions that may not be recorded behind those of some, and what is told of them.
func refused() []struct {
	v    api.Version
	want api.Errno
} {
	first := vs(70002, 70002, "e", day)
	with := func(v api.Version, change func(v *api.Version)) api.Version {
		change(&v)
		return v
	}
	return []struct {
		v    api.Version
		want api.Errno
	}{
		// Those that may not be.
		{api.Version{}, api.ErrArg},
		{vs(1, 0, "e", day), api.ErrArg},
		{vs(1, -1, "e", day), api.ErrArg},
		{vs(1, 1<<40, "e", day), api.ErrArg},
		{vs(1<<40, 1<<40, "e", day), api.ErrArg},
		{vs(1, math.MaxInt, "e", day), api.ErrArg},
		{vs(0, 70002, "e", day), api.ErrArg},
		{vs(-1, 70002, "e", day), api.ErrArg},
		{vs(70003, 70002, "e", day), api.ErrArg},
		{vs(70002, 70002, "", day), api.ErrArg},
		{vs(5, 70002, "", day), api.ErrArg},
		{vs(70002, 70002, tooLong, day), api.ErrBig},
		{gone(70002, 70002, "e"), api.ErrForm},
		{with(gone(5, 70002, "e"), func(v *api.Version) { v.Fields = fs("a1") }), api.ErrForm},
		{with(gone(5, 70002, "e"), func(v *api.Version) { v.Span = day }), api.ErrForm},
		{vs(70002, 70002, "e", api.Span{}), api.ErrSpan},
		{vs(5, 70002, "e", sp(3, 3)), api.ErrSpan},
		{vs(70002, 70002, "e", sp(0, 1<<40+1)), api.ErrSpan},
		{vs(70002, 70002, "e", sp(math.MinInt, math.MaxInt)), api.ErrSpan},
		{vs(70002, 70002, "e", day, nine...), api.ErrBig},
		{vs(70002, 70002, "e", day, fs("A1")...), api.ErrForm},
		{vs(5, 70002, "e", day, fl("a", 1<<61)), api.ErrArg},
		{vs(70002, 70002, "e", day, fs("b1 a1")...), api.ErrOrder},
		{vs(5, 70002, "e", day, fs("a1 a1")...), api.ErrOrder},
		// Stamps that don't rise: Now, and below, of an event that is there, and of one that is not.
		{vs(70001, 70001, "e", day), api.ErrOrder},
		{vs(70000, 70000, "e", day), api.ErrOrder},
		{vs(4, 4, "e", day), api.ErrOrder},
		{vs(1, 1, "e", day), api.ErrOrder},
		{vs(5, 70001, "e", day), api.ErrOrder},
		{vs(5, 400, "e", day), api.ErrOrder},
		{gone(5, 70001, "e"), api.ErrOrder},
		// IDs of which there is none: of no version, and the Stamps of later ones.
		{vs(4, 70002, "e", day), api.ErrNone},
		{vs(3, 70002, "e", day), api.ErrNone},
		{vs(70001, 70002, "g", day), api.ErrNone},
		{gone(300, 70002, "e"), api.ErrNone},
		{vs(100, 1<<40-1, "e", day), api.ErrNone},
		// Events that are gone, and those of another entity.
		{vs(1, 70002, "e", day), api.ErrGone},
		{gone(1, 70002, "e"), api.ErrGone},
		{vs(2, 1<<40-1, "f", day), api.ErrGone},
		{vs(5, 70002, "f", day), api.ErrForm},
		{gone(5, 70002, "g"), api.ErrForm},
		{vs(301, 70002, "e", day), api.ErrForm},
		{vs(9, 70002, "\xfe", day), api.ErrForm},
		{vs(5, 70002, "E", day), api.ErrForm},
		{vs(5, 70002, "ee", day), api.ErrForm},
		// Of several errors that which is named first.
		{with(first, func(v *api.Version) { v.Stamp, v.Entity, v.Span = 0, tooLong, sp(3, 3) }), api.ErrArg},
		{vs(4, 4, tooLong, sp(3, 3)), api.ErrBig},
		{vs(4, 5, "e", sp(3, 3)), api.ErrSpan},
		{vs(4, 70002, "e", sp(3, 3)), api.ErrSpan},
		{vs(1, 70002, "f", sp(3, 3), nine...), api.ErrSpan},
		{vs(1, 70002, "f", day, nine...), api.ErrBig},
		{vs(5, 70002, "f", day, fl("a", 1<<61)), api.ErrArg},
		{gone(4, 4, "e"), api.ErrForm},
		{vs(4, 70001, "e", day), api.ErrOrder},
		{vs(1, 70001, "e", day), api.ErrOrder},
		{vs(1, 70000, "f", day), api.ErrOrder},
		{vs(5, 70001, "f", day), api.ErrOrder},
		{vs(1, 70002, "f", day), api.ErrGone},
		{gone(2, 70002, "e"), api.ErrGone},
	}
}

// TestPutOfWrong: each error, also where several are met, and it changes nothing.
func TestPutOfWrong(t *testing.T) {
	r, l := made(some()...)
	for _, c := range refused() {
		if e := r.Put(c.v); e != c.want {
			t.Errorf("Put(%#v) = %d, not %d", c.v, e, c.want)
		}
		if _, e := l.put(c.v); e != c.want {
			t.Errorf("the slow Put(%#v) = %d, not %d", c.v, e, c.want)
		}
		if fault := faultOf(r, l); fault != "" {
			t.Fatalf("behind Put(%#v): %s", c.v, fault)
		}
	}
	// What is right goes on from there as if none of them had been.
	for _, v := range list(vs(5, 70002, "e", ever), vs(70003, 70003, "e", day), gone(9, 1<<40-2, "\xff"), vs(1<<40-1, 1<<40-1, mostBytes, day, eight...)) {
		var want api.Errno
		if l, want = l.put(v); want != api.OK || r.Put(v) != api.OK {
			t.Errorf("Put(%#v) is refused", v)
		}
	}
	if fault := faultAtEnds(r, l); fault != "" {
		t.Error(fault)
	}
}

// TestPutOfNothing: behind nothing only an event's first version may be recorded.
func TestPutOfNothing(t *testing.T) {
	for _, c := range []struct {
		v    api.Version
		want api.Errno
	}{
		{vs(1, 1, "e", day), api.OK},
		{vs(7, 7, "e", day), api.OK},
		{vs(1<<40-1, 1<<40-1, "e", day), api.OK},
		{vs(1, 2, "e", day), api.ErrNone},
		{gone(1, 2, "e"), api.ErrNone},
		{vs(0, 1, "e", day), api.ErrArg},
		{vs(1, 0, "e", day), api.ErrArg},
		{gone(1, 1, "e"), api.ErrForm},
	} {
		r := rel.New()
		l, want := slow(nil).put(c.v)
		if e := r.Put(c.v); e != c.want || want != c.want {
			t.Errorf("Put(%#v) = %d, not %d", c.v, e, c.want)
		}
		if fault := faultOf(r, l); fault != "" {
			t.Error(fault)
		}
	}
}

// TestDo: each kind, targets of all sorts, and each error of command.Make.
func TestDo(t *testing.T) {
	r, l := made(some()...)
	for _, c := range []struct {
		c    api.Command
		want int
		e    api.Errno
	}{
		// Errors.
		{api.Command{}, 0, api.ErrArg},
		{api.Command{Kind: 4, Target: 5}, 0, api.ErrArg},
		{api.Command{Kind: api.Append, Target: 5, Entity: "e", Span: day}, 0, api.ErrForm},
		{api.Command{Kind: api.Annul, Target: 5, Entity: "e"}, 0, api.ErrForm},
		{annul(0), 0, api.ErrArg},
		{annul(-9), 0, api.ErrArg},
		{annul(1 << 40), 0, api.ErrArg},
		{correct(0, day), 0, api.ErrArg},
		{appends("", day), 0, api.ErrArg},
		{appends(tooLong, day), 0, api.ErrBig},
		{appends("e", sp(3, 3)), 0, api.ErrSpan},
		{correct(5, api.Span{}), 0, api.ErrSpan},
		{appends("e", day, nine...), 0, api.ErrBig},
		{correct(5, day, fs("b1 a1")...), 0, api.ErrOrder},
		{correct(1, day, fs("A1")...), 0, api.ErrForm},
		{appends("e", day, fl("a", 1<<61)), 0, api.ErrArg},
		{annul(4), 0, api.ErrNone},
		{annul(3), 0, api.ErrNone},
		{annul(70002), 0, api.ErrNone},
		{annul(1<<40 - 1), 0, api.ErrNone},
		{correct(6, day), 0, api.ErrNone},
		{annul(-1), 0, api.ErrNone},
		{annul(-8), 0, api.ErrNone},
		{correct(-1, day), 0, api.ErrNone},
		{annul(1), 0, api.ErrGone},
		{annul(2), 0, api.ErrGone},
		{correct(1, day, fs("a1")...), 0, api.ErrGone},
		// Each kind, behind stamps that were put far apart.
		{appends("e", day, fs("a1 b2")...), 70002, api.OK},
		{correct(70002, sp(3, 12), fs("a2")...), 70003, api.OK},
		{correct(5, ever), 70004, api.OK},
		{annul(70002), 70005, api.OK},
		{correct(70002, day), 0, api.ErrGone},
		{annul(70003), 0, api.ErrNone},
		{appends(mostBytes, ever, eight...), 70006, api.OK},
		{annul(301), 70007, api.OK},
		{annul(70006), 70008, api.OK},
		{annul(9), 70009, api.OK},
	} {
		n, e := r.Do(c.c)
		if n != c.want || e != c.e {
			t.Errorf("Do(%#v) = %d, %d, not %d, %d", c.c, n, e, c.want, c.e)
		}
		behind, slowN, slowE := l.do(c.c)
		if slowN != c.want || slowE != c.e {
			t.Errorf("the slow Do(%#v) = %d, %d, not %d, %d", c.c, slowN, slowE, c.want, c.e)
		}
		if l = behind; e == api.OK && r.Now() != n {
			t.Errorf("behind Do(%#v) Now is %d", c.c, r.Now())
		}
		if fault := faultOf(r, l); fault != "" {
			t.Fatalf("behind Do(%#v): %s", c.c, fault)
		}
	}
}

// TestDoOfStamps: its stamp is the next one, wherever Put left off; up to the last one of all.
func TestDoOfStamps(t *testing.T) {
	r, l := made()
	record := func(c api.Command, want int, wantE api.Errno) {
		t.Helper()
		n, e := r.Do(c)
		if n != want || e != wantE {
			t.Errorf("Do(%#v) = %d, %d, not %d, %d", c, n, e, want, wantE)
		}
		l, _, _ = l.do(c)
	}
	put := func(v api.Version) {
		t.Helper()
		if e := r.Put(v); e != api.OK {
			t.Errorf("Put(%#v) = %d", v, e)
		}
		l, _ = l.put(v)
	}
	record(appends("e", day), 1, api.OK)
	put(vs(10, 10, "f", day))
	record(correct(1, ever), 11, api.OK)
	put(vs(1, 5000, "e", day, fs("a1")...))
	record(appends("e", day), 5001, api.OK)
	put(gone(10, 1<<39, "f"))
	record(annul(5001), 1<<39+1, api.OK)
	put(vs(1<<40-3, 1<<40-3, "g", day))
	record(correct(1<<40-3, ever), 1<<40-2, api.OK)
	record(appends("g", day), 1<<40-1, api.OK)
	// There is no stamp left.
	record(appends("g", day), 0, api.ErrLimit)
	record(correct(1, day), 0, api.ErrLimit)
	record(annul(1), 0, api.ErrLimit)
	// This is told ahead of what is wrong with a target, and behind what is wrong with a command.
	record(annul(10), 0, api.ErrLimit)
	record(annul(7), 0, api.ErrLimit)
	record(correct(-1, day), 0, api.ErrLimit)
	record(annul(0), 0, api.ErrArg)
	record(appends("g", sp(3, 3)), 0, api.ErrSpan)
	if e := r.Put(vs(1, 1<<40-1, "e", day)); e != api.ErrOrder {
		t.Errorf("Put at the last stamp of all: %d", e)
	}
	if fault := faultAtEnds(r, l); fault != "" {
		t.Error(fault)
	}
}

func TestLast(t *testing.T) {
	r, _ := made(some()...)
	for _, c := range []struct {
		id   int
		want api.Version
		ok   bool
	}{
		{1, gone(1, 70000, "e"), true},
		{2, gone(2, 6, "f"), true},
		{5, vs(5, 300, "e", sp(-1<<40, 5), fs("b0")...), true},
		{9, vs(9, 9, "\xff", ever, eight...), true},
		{301, vs(301, 70001, "g", day, fs("a7")...), true},
		{0, api.Version{}, false},
		{-1, api.Version{}, false},
		{-301, api.Version{}, false},
		{3, api.Version{}, false},
		{4, api.Version{}, false},
		{70001, api.Version{}, false},
		{1 << 40, api.Version{}, false},
		{math.MaxInt, api.Version{}, false},
		{math.MinInt, api.Version{}, false},
	} {
		v, ok := r.Last(c.id)
		if !sameVersion(v, c.want) || ok != c.ok {
			t.Errorf("Last(%d) = %v, %t, not %v, %t", c.id, v, ok, c.want, c.ok)
		}
	}
}

// TestNil: of nil, and of a relation that no call made, nothing is told, and nothing is recorded.
func TestNil(t *testing.T) {
	for name, r := range map[string]*rel.Rel{"nil": nil, "new": new(rel.Rel), "literal": {}} {
		for _, v := range append(some(), api.Version{}, vs(1, 1, "e", sp(3, 3))) {
			if e := r.Put(v); e != api.ErrNil {
				t.Errorf("%s: Put(%v) = %d", name, v, e)
			}
		}
		for _, c := range []api.Command{appends("e", day), correct(1, day), annul(1), {}, annul(-1), appends("e", sp(3, 3))} {
			if n, e := r.Do(c); n != 0 || e != api.ErrNil {
				t.Errorf("%s: Do(%v) = %d, %d", name, c, n, e)
			}
		}
		if fault := about(some()).wide().fault(r, nil); fault != "" {
			t.Errorf("%s: %s", name, fault)
		}
		if c := r.Copy(); c != nil {
			t.Errorf("%s: Copy is not nil", name)
		}
	}
}

// scribble writes to fields as one who was given them may, up to all that there is room for.
func scribble(l []api.Field) {
	all := l[:cap(l)]
	for i := range all {
		all[i] = fl("z", 99)
	}
}

func scribbleVersions(l []api.Version) {
	for i := range l {
		scribble(l[i].Fields)
		l[i] = vs(99, 99, "z", sp(7, 8))
	}
}

// TestArgumentsStay: no call writes to what it is given, nor is it seen what is written to that later.
func TestArgumentsStay(t *testing.T) {
	r, l := made()
	var commands []api.Command
	for _, c := range []api.Command{appends("e", day, fs("a1 b2")...), correct(1, ever, fs("a2 c3")...), appends("f", day, eight...), annul(3), correct(9, day, fs("a1")...)} {
		commands = append(commands, sketch.CopyCommands([]api.Command{c})...)
	}
	kept := sketch.CopyCommands(commands)
	for _, c := range commands {
		r.Do(c)
		l, _, _ = l.do(c)
	}
	if !sketch.SameCommands(commands, kept) {
		t.Errorf("the commands are now %v", commands)
	}
	l = sketch.CopyVersions(l)
	for _, c := range commands {
		scribble(c.Fields)
	}
	versions := list(vs(7, 7, "e", day, fs("a1 b2")...), vs(1, 8, "e", day, fs("a8")...), gone(7, 9, "e"), vs(9, 9, "e", day, fs("a1")...))
	keptVersions := sketch.CopyVersions(versions)
	for _, v := range versions {
		r.Put(v)
		l, _ = l.put(v)
	}
	if !sameVersions(versions, keptVersions) {
		t.Errorf("the versions are now %v", versions)
	}
	scribbleVersions(versions)
	if fault := faultOf(r, l); fault != "" {
		t.Errorf("what is written to the arguments is seen: %s", fault)
	}
}

// answers are all answers of a relation that have lists of fields.
func answers(r *rel.Rel) [][]api.Field {
	var all [][]api.Field
	add := func(l ...api.Version) {
		for _, v := range l {
			all = append(all, v.Fields)
		}
	}
	add(r.Audit(0, math.MaxInt)...)
	for _, row := range r.Rows() {
		add(row.Version)
	}
	for _, v := range r.Audit(0, math.MaxInt) {
		last, _ := r.Last(v.ID)
		add(last)
		add(r.History(v.ID, 0, math.MaxInt)...)
		for _, p := range r.Range(v.Entity, ever, v.Stamp) {
			all = append(all, p.Fields)
		}
		for _, t := range []int{0, 3, 8} {
			fields, _ := r.AsOf(v.Entity, t, v.Stamp)
			all = append(all, fields)
		}
	}
	return all
}

// TestAnswersAreNew: what is written into an answer is seen neither in the relation, nor elsewhere in that answer, nor in another one.
func TestAnswersAreNew(t *testing.T) {
	r, l := made(some()...)
	all := answers(r)
	var kept [][]api.Field
	for _, fields := range all {
		kept = append(kept, slices.Clone(fields))
	}
	for i, fields := range all {
		scribble(fields)
		for k := i + 1; k < len(all); k++ {
			if !slices.Equal(all[k], kept[k]) {
				t.Fatalf("what is written to the %d-th list of an answer, %v, is seen in the %d-th, %v", i, kept[i], k, kept[k])
			}
		}
	}
	// The lists of answers themselves, too.
	scribbleVersions(r.Audit(0, math.MaxInt))
	scribbleVersions(r.History(1, 0, math.MaxInt))
	rows, entities, pieces := r.Rows(), r.Entities(), r.Range("e", ever, 9)
	for i := range rows {
		rows[i] = row(gone(7, 8, "z"), 9)
	}
	for i := range entities {
		entities[i] = "z"
	}
	for i := range pieces {
		pieces[i] = pc(7, 8, "z9")
	}
	if fault := faultOf(r, l); fault != "" {
		t.Errorf("what is written to the answers is seen: %s", fault)
	}
	// Nor is what is recorded later seen in them.
	history, audit, told := r.History(5, 0, 1000), r.Audit(0, 1<<40), r.Rows()
	r.Do(correct(5, day, fs("z1")...))
	if !sameVersions(history, l.between(0, 1000, of(5))) || !sameVersions(audit, l) || !sameRows(told, l.rows()) {
		t.Error("what is recorded later is seen in answers")
	}
}

// TestAgain: what is told is told again, so that it hangs on no map's order.
func TestAgain(t *testing.T) {
	r, l := made(some()...)
	for range 20 {
		if fault := faultOf(r, l); fault != "" {
			t.Fatal(fault)
		}
	}
}

// TestCopy: it has the same, and what is put in one of them is not seen in the other.
func TestCopy(t *testing.T) {
	for n := range len(some()) + 1 {
		r, l := made(some()[:n]...)
		c := r.Copy()
		if c == nil {
			t.Fatal("Copy is nil")
		}
		both := []*rel.Rel{r, c, c.Copy(), r.Copy()}
		lists := []slow{l, l, l, l}
		for turn := range 12 {
			for i := range both {
				if fault := faultOf(both[i], lists[i]); fault != "" {
					t.Fatalf("the %d-th: %s", i, fault)
				}
			}
			// Now one of them, now another one goes on, each in its own way.
			i := turn % len(both)
			commands := []api.Command{appends("e", day, fl("a", turn)), annul(5), correct(1, sp(0, turn+1), fl("b", i)), correct(301, day), appends("n", ever)}
			c := commands[(turn+i)%len(commands)]
			both[i].Do(c)
			lists[i], _, _ = lists[i].do(c)
		}
	}
}

// TestCopyGoesOn: in a copy, too, the rows are ended that what is put there follows on, and in none but that.
func TestCopyGoesOn(t *testing.T) {
	r, _ := made(vs(1, 1, "e", day, fs("a1")...))
	c := r.Copy()
	if n, e := c.Do(annul(1)); n != 2 || e != api.OK {
		t.Fatal(n, e)
	}
	if !sameRows(r.Rows(), rows(row(vs(1, 1, "e", day, fs("a1")...), 1<<62))) || r.Now() != 1 {
		t.Errorf("the relation has %v", r.Rows())
	}
	if !sameRows(c.Rows(), rows(row(vs(1, 1, "e", day, fs("a1")...), 2), row(gone(1, 2, "e"), 1<<62))) || c.Now() != 2 {
		t.Errorf("the copy has %v", c.Rows())
	}
	if n, e := r.Do(appends("f", day)); n != 2 || e != api.OK {
		t.Fatal(n, e)
	}
	if got := c.Entities(); !slices.Equal(got, []string{"e"}) {
		t.Errorf("the copy has the entities %v", got)
	}
	if got := r.Entities(); !slices.Equal(got, []string{"e", "f"}) {
		t.Errorf("the relation has the entities %v", got)
	}
}

// TestAllSmall does all lists of a few commands, one behind the other, and holds what is told against the words of the chapter.
func TestAllSmall(t *testing.T) {
	commands := []api.Command{
		appends("e", sp(0, 4), fs("a1")...), appends("e", sp(2, 6), fs("a2 b2")...), appends("f", sp(0, 4), fs("a3")...),
		correct(1, sp(3, 8), fs("b4")...), correct(2, sp(0, 4)), annul(1), annul(2), annul(3),
	}
	var grow func(r *rel.Rel, l slow, more int)
	grow = func(r *rel.Rel, l slow, more int) {
		if fault := faultOf(r, l); fault != "" {
			t.Fatal(fault)
		}
		if more == 0 {
			return
		}
		for _, c := range commands {
			behind, want, wantE := l.do(c)
			copied := r.Copy()
			if n, e := copied.Do(c); n != want || e != wantE {
				t.Fatalf("behind %v: Do(%#v) = %d, %d, not %d, %d", []api.Version(l), c, n, e, want, wantE)
			}
			if wantE == api.OK {
				grow(copied, behind, more-1)
			}
		}
	}
	grow(rel.New(), nil, 4)
}

// someSpan answers a right span of few times, and now and then one at the ends of time, or one that is not right.
func someSpan(r *rand.Rand) api.Span {
	switch r.Intn(12) {
	case 0:
		return pick(r, []api.Span{ever, sp(-1<<40, -1<<40+1), sp(1<<40-1, 1<<40), sp(-1<<40, 3), sp(3, 1<<40)})
	case 1:
		return pick(r, sketch.Strange())
	}
	from := r.Intn(12) - 4
	return sp(from, from+1+r.Intn(8))
}

// someFields answers fields, most of them right.
func someFields(r *rand.Rand) []api.Field {
	return fs(pick(r, []string{"", "a1", "a2", "b1", "a1 b1", "a2 b3", "b2 c3", "a0", "a1 b2 c3 d4 e5 f6 g7 h8", "b1 a1", "A1", "a1 a2"}))
}

// someEntities are entities of bytes of all sorts, and two that are none.
var someEntities = []string{"e", "e", "e", "f", "f", "\x00", "\xff", "e\x00", mostBytes, "", tooLong}

// someVersion answers a version that may be recorded behind l, or is wrong in one way or several.
func someVersion(r *rand.Rand, l slow) api.Version {
	stamp := l.now() + pick(r, []int{1, 1, 1, 2, 3, 50, 1 << 20, 0, -1, -l.now()})
	v := vs(stamp, stamp, pick(r, someEntities), someSpan(r), someFields(r)...)
	if len(l) > 0 && r.Intn(3) > 0 {
		last, _ := l.last(pick(r, l).ID)
		if v.ID = last.ID; r.Intn(6) > 0 {
			v.Entity = last.Entity
		}
		if r.Intn(3) == 0 {
			v = gone(v.ID, v.Stamp, v.Entity)
		}
	}
	if r.Intn(10) == 0 {
		v.ID = pick(r, []int{0, -1, 1, 2, 3, stamp - 1, stamp + 1, math.MaxInt})
	}
	return v
}

// someCommand answers a command that may be done behind l, or is wrong.
func someCommand(r *rand.Rand, l slow) api.Command {
	target := pick(r, []int{0, -1, -8, 1, 2, 3, 1 << 40, math.MinInt})
	if len(l) > 0 && r.Intn(6) > 0 {
		target = pick(r, l).ID
	}
	switch r.Intn(4) {
	case 0:
		return annul(target)
	case 1:
		return appends(pick(r, someEntities), someSpan(r), someFields(r)...)
	}
	return correct(target, someSpan(r), someFields(r)...)
}

// grown puts and does many things, right and wrong, and answers what came of it; each answer is held against the words of the chapter, and what is asked behind each.
func grown(t *testing.T, r *rand.Rand, steps int, behind func(a *rel.Rel, l slow)) map[api.Errno]int {
	told := map[api.Errno]int{}
	a, l := made()
	for range steps {
		var e, want api.Errno
		if r.Intn(2) == 0 {
			v := someVersion(r, l)
			next, slowE := l.put(v)
			if e, want = a.Put(v), slowE; e != want {
				t.Fatalf("behind %v: Put(%#v) = %d, not %d", []api.Version(l), v, e, want)
			}
			l = next
		} else {
			c := someCommand(r, l)
			next, slowN, slowE := l.do(c)
			n, got := a.Do(c)
			if e, want = got, slowE; e != want || n != slowN {
				t.Fatalf("behind %v: Do(%#v) = %d, %d, not %d, %d", []api.Version(l), c, n, e, slowN, want)
			}
			l = next
		}
		told[e]++
		behind(a, l)
	}
	return told
}

// TestMany holds what is told behind many steps, right and wrong, against the words of the chapter.
func TestMany(t *testing.T) {
	r := rand.New(rand.NewSource(151))
	told := map[api.Errno]int{}
	for range 60 {
		var last *rel.Rel
		var list slow
		for e, n := range grown(t, r, 25, func(a *rel.Rel, l slow) {
			if fault := about(l).faultOfList(a, l); fault != "" {
				t.Fatal(fault)
			}
			last, list = a, l
		}) {
			told[e] += n
		}
		if fault := faultAtEnds(last, list); fault != "" {
			t.Fatal(fault)
		}
	}
	for _, e := range []api.Errno{api.OK, api.ErrArg, api.ErrSpan, api.ErrBig, api.ErrNone, api.ErrGone, api.ErrForm, api.ErrOrder} {
		if told[e] < 10 {
			t.Errorf("the error %d is told %d times", e, told[e])
		}
	}
}

// TestLong: long relations end too, and each question to one is answered.
func TestLong(t *testing.T) {
	const many = 60_000
	r := rel.New()
	for i := range many {
		c := appends(fmt.Sprint("e", i%100), sp(i, i+1000), fl("a", i))
		if i%3 == 2 {
			c = correct(i, sp(i, i+10), fl("b", i))
		}
		if n, e := r.Do(c); n != i+1 || e != api.OK {
			t.Fatal(i, n, e)
		}
	}
	if r.Now() != many || len(r.Rows()) != many || len(r.Audit(0, many)) != many || len(r.Entities()) != 100 {
		t.Error(r.Now())
	}
	for i := range many {
		if got := r.Audit(i, i+1); len(got) != 1 || got[0].Stamp != i+1 {
			t.Fatal(i, got)
		}
		if v, ok := r.Last(i + 1); ok != (i%3 != 2) || ok && v.Stamp != i+1+i%3 {
			t.Fatal(i, v, ok)
		}
	}
	for entity := range 100 {
		got := r.Range(fmt.Sprint("e", entity), ever, many)
		if !timeline.Right(got...) || len(got) == 0 {
			t.Fatal(entity, got)
		}
	}
}
