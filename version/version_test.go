package version_test

import (
	"cmp"
	"math"
	"math/rand"
	"slices"
	"strings"
	"testing"

	"erratum/api"
	"erratum/field"
	"erratum/pack"
	"erratum/sketch"
	"erratum/version"
)

// Short names of what these tests are written with.
var (
	fl, sp, same, raw = sketch.Field, sketch.Span, sketch.SameVersion, sketch.Raw
	vs, gone, row     = sketch.Version, sketch.Gone, sketch.Row
)

// Entities of as many bytes as one may have, and of one more; spans that are right; and more fields than a version may have, and as many.
const mostBytes, tooLong = sketch.MostBytes, sketch.TooLong

var (
	day, ever   = sketch.Day(), sketch.Ever()
	nine, eight = sketch.Nine(), sketch.Nine()[:8]
)

// copied answers a copy of a version that shares nothing with it.
func copied(v api.Version) api.Version {
	v.Fields = slices.Clone(v.Fields)
	return v
}

// slowEntity, slowRight and slowRightRow tell by the words of the chapter what is wrong first.
func slowEntity(s string) api.Errno {
	if s == "" {
		return api.ErrArg
	}
	if len(s) > 24 {
		return api.ErrBig
	}
	return api.OK
}

func slowRight(v api.Version) api.Errno {
	if v.Stamp < 1 || v.Stamp > 1<<40-1 || v.ID < 1 || v.ID > v.Stamp {
		return api.ErrArg
	}
	if e := slowEntity(v.Entity); e != api.OK {
		return e
	}
	if v.Gone {
		if v.ID == v.Stamp || len(v.Fields) != 0 || v.Span.From != 0 || v.Span.To != 0 {
			return api.ErrForm
		}
		return api.OK
	}
	if v.Span.From < -1<<40 || v.Span.To > 1<<40 || v.Span.From >= v.Span.To {
		return api.ErrSpan
	}
	return field.Right(v.Fields...)
}

func slowRightRow(r api.Row) api.Errno {
	if e := slowRight(r.Version); e != api.OK {
		return e
	}
	if r.Until == 1<<62 || r.Until > r.Version.Stamp && r.Until <= 1<<40-1 {
		return api.OK
	}
	return api.ErrArg
}

// slowCompare holds versions against each other by the words of the chapter.
func slowCompare(a, b api.Version) int {
	switch {
	case a.Entity < b.Entity:
		return -1
	case a.Entity > b.Entity:
		return 1
	case a.Span.From < b.Span.From:
		return -1
	case a.Span.From > b.Span.From:
		return 1
	case a.Stamp < b.Stamp:
		return -1
	case a.Stamp > b.Stamp:
		return 1
	}
	return 0
}

// slowRead reads a version by the words of the chapter, from the left, whether it may be or not.
func slowRead(s string) (v api.Version, rest string, e api.Errno) {
	if v.ID, s, e = pack.TakeNum(s); e != api.OK {
		return
	}
	if v.Stamp, s, e = pack.TakeNum(s); e != api.OK {
		return
	}
	if v.Entity, s, e = pack.TakeText(s, 24); e != api.OK {
		return
	}
	told, s, e := pack.TakeNum(s)
	if e != api.OK {
		return v, s, e
	}
	if told == 1 {
		v.Gone = true
		return v, s, api.OK
	}
	if told != 0 {
		return v, s, api.ErrForm
	}
	if v.Span.From, s, e = pack.TakeInt(s); e != api.OK {
		return v, s, e
	}
	long, s, e := pack.TakeNum(s)
	if e != api.OK {
		return v, s, e
	}
	v.Span.To = v.Span.From + long
	v.Fields, s, e = field.Take(s)
	return v, s, e
}

// slowTake and slowTakeRow read by the words of the chapter, and tell nothing beside an error.
func slowTake(s string) (api.Version, string, api.Errno) {
	v, rest, e := slowRead(s)
	if e == api.OK && slowRight(v) != api.OK {
		e = api.ErrForm
	}
	if e != api.OK {
		return api.Version{}, "", e
	}
	return v, rest, e
}

func slowTakeRow(s string) (api.Row, string, api.Errno) {
	v, rest, e := slowRead(s)
	until := 0
	if e == api.OK {
		until, rest, e = pack.TakeNum(rest)
	}
	if until == 0 {
		until = 1 << 62
	}
	if e == api.OK && slowRightRow(row(v, until)) != api.OK {
		e = api.ErrForm
	}
	if e != api.OK {
		return api.Row{}, "", e
	}
	return row(v, until), rest, e
}

// Numbers, entities, spans and fields of which any versions are made, right and wrong.
var (
	someInts     = []int{math.MinInt, -1 << 62, -1, 0, 1, 2, 3, 1<<40 - 2, 1<<40 - 1, 1 << 40, 1<<62 - 1, 1 << 62, math.MaxInt}
	someEntities = []string{"", "e", "\x00", "\xff\xfe", mostBytes, tooLong}
	someSpans    = []api.Span{{}, day, sp(-5, -2), ever, sp(3, 3), sp(9, 0), sp(0, -1), sp(-1<<40-1, 0), sp(0, 1<<40+1), sp(1<<40, 1<<40), sp(math.MinInt, math.MaxInt), sp(math.MaxInt, math.MinInt)}
	someFields   = [][]api.Field{nil, {}, {fl("a", 1)}, {fl("a", 0), fl("b", -7)}, eight, nine, {fl("A", 1)}, {fl("a", 1<<61)}, {fl("b", 1), fl("a", 1)}, {fl("a", 1), fl("a", 1)}, {{}}}
	someUntils   = []int{math.MinInt, -1, 0, 1, 2, 3, 4, 1<<40 - 2, 1<<40 - 1, 1 << 40, 1<<62 - 1, 1 << 62, 1<<62 + 1, math.MaxInt}
)

// pick answers one of the things.
func pick[T any](r *rand.Rand, l []T) T { return l[r.Intn(len(l))] }

// someVersion answers any version, of which some are right, and some are wrong in one way or several.
func someVersion(r *rand.Rand) api.Version {
	return api.Version{
		ID: pick(r, someInts), Stamp: pick(r, someInts), Entity: pick(r, someEntities),
		Span: pick(r, someSpans), Fields: pick(r, someFields), Gone: r.Intn(3) == 0,
	}
}

// someRight answers a right version; of whatever a version may have something comes, from the least to the greatest.
func someRight(r *rand.Rand) api.Version {
	v := api.Version{Stamp: 2 + r.Intn(1<<40-2)>>r.Intn(40)}
	v.ID = 1 + r.Intn(v.Stamp)
	entity := make([]byte, 1+r.Intn(24))
	for i := range entity {
		entity[i] = byte(r.Intn(256))
	}
	v.Entity = string(entity)
	if v.Gone = r.Intn(4) == 0; v.Gone {
		v.ID = 1 + r.Intn(v.Stamp-1)
		return v
	}
	v.Span.From = -1<<40 + r.Intn(1<<41)>>r.Intn(42)
	if r.Intn(2) == 0 {
		v.Span.From = r.Intn(1<<40)>>r.Intn(40) - r.Intn(1<<40)>>r.Intn(40)
	}
	v.Span.To = v.Span.From + 1 + r.Intn(1<<40-v.Span.From)>>r.Intn(42)
	for _, name := range []string{"a", "a-b", "b2", "c", "d", "name", "x", "z-----------"} {
		if r.Intn(3) == 0 {
			v.Fields = append(v.Fields, fl(name, r.Intn(1<<61)>>r.Intn(62)-r.Intn(1<<61)>>r.Intn(62)))
		}
	}
	return v
}

// someRightRow answers a right row.
func someRightRow(r *rand.Rand) api.Row {
	v := someRight(r)
	if v.Stamp == 1<<40-1 || r.Intn(3) == 0 {
		return row(v, 1<<62)
	}
	return row(v, v.Stamp+1+r.Intn(1<<40-1-v.Stamp)>>r.Intn(40))
}

func TestEntity(t *testing.T) {
	for _, c := range []struct {
		s    string
		want api.Errno
	}{
		{"", api.ErrArg},
		{"e", api.OK},
		{"\x00", api.OK},
		{"\xff", api.OK},
		{" ", api.OK},
		{"an entity\nof any bytes\x80", api.OK},
		{strings.Repeat("k", 23), api.OK},
		{mostBytes, api.OK},
		{strings.Repeat("\x00", 24), api.OK},
		// It is bytes that count: these are twelve letters, and thirteen.
		{strings.Repeat("ä", 12), api.OK},
		{strings.Repeat("ä", 13), api.ErrBig},
		{tooLong, api.ErrBig},
		{strings.Repeat("\x00", 25), api.ErrBig},
		{strings.Repeat("k", 1<<20), api.ErrBig},
	} {
		if e := version.Entity(c.s); e != c.want {
			t.Errorf("Entity(%.40q), of %d bytes, = %d, not %d", c.s, len(c.s), e, c.want)
		}
	}
	for b := range 256 {
		if e := version.Entity(string([]byte{byte(b)})); e != api.OK {
			t.Errorf("Entity of the byte %02x = %d", b, e)
		}
	}
}

// TestRightNumbers holds stamps and IDs to their ends.
func TestRightNumbers(t *testing.T) {
	for _, c := range []struct {
		stamp     int
		has, lack []int // The IDs that a version of that stamp may have, and some that it may not.
	}{
		{0, nil, []int{-1, 0, 1, math.MinInt}},
		{-1, nil, []int{-2, -1, 0, 1}},
		{math.MinInt, nil, []int{math.MinInt, 0, 1, math.MaxInt}},
		{1, []int{1}, []int{0, 2, -1, math.MinInt, math.MaxInt}},
		{2, []int{1, 2}, []int{0, 3, -1, -2}},
		{300, []int{1, 2, 299, 300}, []int{0, 301, -300}},
		{1<<40 - 1, []int{1, 1<<40 - 2, 1<<40 - 1}, []int{0, 1 << 40, -1, math.MinInt, math.MaxInt}},
		{1 << 40, nil, []int{0, 1, 1<<40 - 1, 1 << 40}},
		{1 << 62, nil, []int{1, 1 << 62}},
		{math.MaxInt, nil, []int{1, math.MaxInt}},
	} {
		for i, ids := range [][]int{c.has, c.lack} {
			for _, id := range ids {
				want := []api.Errno{api.OK, api.ErrArg}[i]
				if e := version.Right(vs(id, c.stamp, "e", day, fl("a", 1))); e != want {
					t.Errorf("Right of the ID %d, and the stamp %d = %d, not %d", id, c.stamp, e, want)
				}
				if id == c.stamp && want == api.OK {
					want = api.ErrForm
				}
				if e := version.Right(gone(id, c.stamp, "e")); e != want {
					t.Errorf("Right of the ID %d, gone at the stamp %d, = %d, not %d", id, c.stamp, e, want)
				}
			}
		}
	}
}

func TestRight(t *testing.T) {
	of := func(v api.Version, change func(v *api.Version)) api.Version {
		change(&v)
		return v
	}
	for _, c := range []struct {
		v    api.Version
		want api.Errno
	}{
		{vs(1, 1, "e", day), api.OK},
		{vs(1, 1, "e", day, []api.Field{}...), api.OK},
		{vs(1, 1, "e", day, fl("a", 1)), api.OK},
		{vs(1, 2, "e", day, eight...), api.OK},
		{vs(2, 2, mostBytes, ever, fl("a", -1<<61), fl("b", 1<<61-1)), api.OK},
		{gone(1, 2, "e"), api.OK},
		{gone(1<<40-2, 1<<40-1, mostBytes), api.OK},
		{of(gone(1, 2, "e"), func(v *api.Version) { v.Fields = []api.Field{} }), api.OK},
		{api.Version{}, api.ErrArg},
		{api.Version{Gone: true}, api.ErrArg},
		// An entity.
		{vs(1, 1, "", day), api.ErrArg},
		{vs(1, 1, tooLong, day), api.ErrBig},
		{gone(1, 2, ""), api.ErrArg},
		{gone(1, 2, tooLong), api.ErrBig},
		// One that is gone.
		{gone(1, 1, "e"), api.ErrForm},
		{gone(2, 2, "e"), api.ErrForm},
		{of(gone(1, 2, "e"), func(v *api.Version) { v.Fields = []api.Field{fl("a", 1)} }), api.ErrForm},
		{of(gone(1, 2, "e"), func(v *api.Version) { v.Fields = []api.Field{{}} }), api.ErrForm},
		{of(gone(1, 2, "e"), func(v *api.Version) { v.Fields = nine }), api.ErrForm},
		{of(gone(1, 2, "e"), func(v *api.Version) { v.Span = day }), api.ErrForm},
		{of(gone(1, 2, "e"), func(v *api.Version) { v.Span = sp(0, 1) }), api.ErrForm},
		{of(gone(1, 2, "e"), func(v *api.Version) { v.Span = sp(-1, 0) }), api.ErrForm},
		{of(gone(1, 2, "e"), func(v *api.Version) { v.Span = sp(5, 5) }), api.ErrForm},
		{of(gone(1, 2, "e"), func(v *api.Version) { v.Span = sp(9, 3) }), api.ErrForm},
		{of(gone(1, 2, "e"), func(v *api.Version) { v.Span = sp(math.MinInt, math.MaxInt) }), api.ErrForm},
		// A span.
		{vs(1, 1, "e", api.Span{}), api.ErrSpan},
		{vs(1, 1, "e", sp(3, 3)), api.ErrSpan},
		{vs(1, 1, "e", sp(3, 2)), api.ErrSpan},
		{vs(1, 1, "e", sp(3, 4)), api.OK},
		{vs(1, 1, "e", sp(-1<<40, -1<<40+1)), api.OK},
		{vs(1, 1, "e", sp(-1<<40-1, -1<<40+1)), api.ErrSpan},
		{vs(1, 1, "e", sp(1<<40-1, 1<<40)), api.OK},
		{vs(1, 1, "e", sp(1<<40-1, 1<<40+1)), api.ErrSpan},
		{vs(1, 1, "e", sp(math.MinInt, math.MaxInt)), api.ErrSpan},
		{vs(1, 1, "e", sp(math.MaxInt, math.MinInt)), api.ErrSpan},
		// Fields.
		{vs(1, 1, "e", day, nine...), api.ErrBig},
		{vs(1, 1, "e", day, api.Field{}), api.ErrForm},
		{vs(1, 1, "e", day, fl("A", 1)), api.ErrForm},
		{vs(1, 1, "e", day, fl("abcdefghijkl", 1)), api.OK},
		{vs(1, 1, "e", day, fl("abcdefghijklm", 1)), api.ErrForm},
		{vs(1, 1, "e", day, fl("a", 1<<61)), api.ErrArg},
		{vs(1, 1, "e", day, fl("a", -1<<61-1)), api.ErrArg},
		{vs(1, 1, "e", day, fl("b", 1), fl("a", 1)), api.ErrOrder},
		{vs(1, 1, "e", day, fl("a", 1), fl("a", 2)), api.ErrOrder},
		// What is wrong first is told of, however wrong what follows is.
		{vs(2, 1, "", sp(3, 3), nine...), api.ErrArg},
		{vs(0, 1, tooLong, sp(3, 3), nine...), api.ErrArg},
		{vs(1, 0, tooLong, sp(3, 3), fl("A", 1)), api.ErrArg},
		{vs(1, 1<<40, tooLong, day), api.ErrArg},
		{vs(1, 1, tooLong, sp(3, 3), nine...), api.ErrBig},
		{vs(1, 1, "", sp(3, 3), nine...), api.ErrArg},
		{vs(1, 1, "", day, fl("A", 1)), api.ErrArg},
		{vs(1, 1, "e", sp(3, 3), nine...), api.ErrSpan},
		{vs(1, 1, "e", sp(3, 3), fl("A", 1)), api.ErrSpan},
		{vs(1, 1, "e", api.Span{}, fl("a", 1<<61)), api.ErrSpan},
		{gone(3, 2, ""), api.ErrArg},
		{gone(3, 2, tooLong), api.ErrArg},
		{gone(0, 0, "e"), api.ErrArg},
		{gone(2, 2, tooLong), api.ErrBig},
		{gone(2, 2, ""), api.ErrArg},
		{of(gone(1, 2, tooLong), func(v *api.Version) { v.Span = day; v.Fields = nine }), api.ErrBig},
		{of(gone(2, 2, "e"), func(v *api.Version) { v.Span = sp(3, 3); v.Fields = nine }), api.ErrForm},
	} {
		if e := version.Right(c.v); e != c.want {
			t.Errorf("Right(%#v) = %d, not %d", c.v, e, c.want)
		}
		if s, e := version.Put(c.v); e != c.want || (s == "") != (e != api.OK) {
			t.Errorf("Put(%#v) = %x, %d, not %d", c.v, s, e, c.want)
		}
		// Whatever Until is: the version's error is told first.
		for _, until := range []int{0, 2, 1 << 62} {
			e := version.RightRow(row(c.v, until))
			if c.want != api.OK && e != c.want {
				t.Errorf("RightRow(%#v until %d) = %d, not %d", c.v, until, e, c.want)
			}
			if s, put := version.PutRow(row(c.v, until)); put != e || (s == "") != (e != api.OK) {
				t.Errorf("PutRow(%#v until %d) = %x, %d, not %d", c.v, until, s, put, e)
			}
		}
	}
}

func TestRightRow(t *testing.T) {
	for _, c := range []struct {
		stamp     int
		has, lack []int // Where a row of that stamp may end, and where not.
	}{
		{2, []int{3, 4, 300, 1<<40 - 1, 1 << 62}, []int{2, 1, 0, -1, 1 << 40, 1<<40 + 1, 1<<62 - 1, 1<<62 + 1, math.MaxInt, math.MinInt}},
		{7, []int{8, 1<<40 - 1, 1 << 62}, []int{7, 6, 1, 0, -8, 1 << 40}},
		{1<<40 - 2, []int{1<<40 - 1, 1 << 62}, []int{1<<40 - 2, 1 << 40, 0}},
		{1<<40 - 1, []int{1 << 62}, []int{1<<40 - 1, 1 << 40, 1<<40 - 2, 0, 1<<62 - 1, 1<<62 + 1, math.MaxInt}},
	} {
		for _, v := range []api.Version{vs(1, c.stamp, "e", day, fl("a", 1)), vs(c.stamp, c.stamp, "e", day), gone(1, c.stamp, "e")} {
			for i, untils := range [][]int{c.has, c.lack} {
				for _, until := range untils {
					want := []api.Errno{api.OK, api.ErrArg}[i]
					if e := version.RightRow(row(v, until)); e != want {
						t.Errorf("RightRow(%#v until %d) = %d, not %d", v, until, e, want)
					}
					if s, e := version.PutRow(row(v, until)); e != want || (s == "") != (e != api.OK) {
						t.Errorf("PutRow(%#v until %d) = %x, %d, not %d", v, until, s, e, want)
					}
				}
			}
		}
	}
	for _, r := range []api.Row{{}, {Until: 1 << 62}, {Until: 1}} {
		if e := version.RightRow(r); e != api.ErrArg {
			t.Errorf("RightRow(%#v) = %d", r, e)
		}
	}
}

// TestRightOfAll goes over all versions that are made of some numbers, entities, spans and fields, and over rows of them.
func TestRightOfAll(t *testing.T) {
	right := 0
	hold := func(v api.Version) {
		want := slowRight(v)
		if e := version.Right(v); e != want {
			t.Fatalf("Right(%#v) = %d, not %d", v, e, want)
		}
		if want == api.OK {
			right++
		}
		for _, until := range someUntils {
			r := row(v, until)
			if e := version.RightRow(r); e != slowRightRow(r) {
				t.Fatalf("RightRow(%#v) = %d, not %d", r, e, slowRightRow(r))
			}
		}
	}
	for _, id := range someInts {
		for _, stamp := range someInts {
			for _, entity := range someEntities {
				for _, a := range someSpans {
					for _, l := range someFields {
						hold(api.Version{ID: id, Stamp: stamp, Entity: entity, Span: a, Fields: l})
						hold(api.Version{ID: id, Stamp: stamp, Entity: entity, Span: a, Fields: l, Gone: true})
					}
				}
			}
		}
	}
	if right < 500 {
		t.Errorf("only %d were right", right)
	}
}

func TestLive(t *testing.T) {
	for _, c := range []struct {
		stamp, until int
		has, not     []int
	}{
		{1, 1 << 62, []int{1, 2, 1<<40 - 1, 1 << 40, 1<<62 - 1}, []int{0, -1, math.MinInt, 1 << 62, 1<<62 + 1, math.MaxInt}},
		{5, 9, []int{5, 6, 8}, []int{4, 9, 10, 0, -5, -6}},
		{5, 6, []int{5}, []int{4, 6}},
		{1<<40 - 2, 1<<40 - 1, []int{1<<40 - 2}, []int{1<<40 - 3, 1<<40 - 1}},
		{1<<40 - 1, 1 << 62, []int{1<<40 - 1, 1 << 40}, []int{1<<40 - 2, 1 << 62}},
		// Rows that may not be.
		{5, 5, nil, []int{4, 5, 6}},
		{9, 5, nil, []int{4, 5, 6, 8, 9, 10}},
		{0, 1, []int{0}, []int{-1, 1}},
		{0, 0, nil, []int{-1, 0, 1}},
		{-3, 2, []int{-3, 0, 1}, []int{-4, 2}},
		{math.MinInt, math.MaxInt, []int{math.MinInt, -1, 0, 1, math.MaxInt - 1}, []int{math.MaxInt}},
		{math.MaxInt, math.MinInt, nil, []int{math.MinInt, 0, math.MaxInt}},
		{math.MinInt, math.MinInt, nil, []int{math.MinInt, math.MinInt + 1, math.MaxInt}},
		{1 << 62, math.MaxInt, []int{1 << 62}, []int{1<<62 - 1, math.MaxInt}},
	} {
		for i, times := range [][]int{c.has, c.not} {
			for _, at := range times {
				// Whose it is, when it is valid and what it sets doesn't count.
				for _, v := range []api.Version{vs(1, c.stamp, "e", day, fl("a", 1)), {Stamp: c.stamp}, vs(-7, c.stamp, tooLong, sp(9, 0), nine...)} {
					if got := version.Live(row(v, c.until), at); got != (i == 0) {
						t.Errorf("Live(%d until %d, %d) = %#v", c.stamp, c.until, at, got)
					}
					v.Gone = true
					if version.Live(row(v, c.until), at) {
						t.Errorf("Live(%d until %d, %d) is true, but the version is gone", c.stamp, c.until, at)
					}
				}
			}
		}
	}
}

// TestLiveOfAll goes over rows of all small numbers, and of extreme ones.
func TestLiveOfAll(t *testing.T) {
	numbers := append([]int{4, 5, 6, 7, -2}, someInts...)
	for _, stamp := range numbers {
		for _, until := range numbers {
			for _, at := range numbers {
				for _, isGone := range []bool{false, true} {
					want := stamp <= at && at < until && !isGone
					r := row(api.Version{Stamp: stamp, Gone: isGone}, until)
					if got := version.Live(r, at); got != want {
						t.Fatalf("Live(%d until %d, %d) = %#v; gone: %#v", stamp, until, at, got, isGone)
					}
				}
			}
		}
	}
}

func TestCompare(t *testing.T) {
	of := func(entity string, from, stamp int) api.Version { return vs(1, stamp, entity, sp(from, 9)) }
	for _, c := range []struct {
		a, b api.Version
		want int
	}{
		{of("e", 1, 1), of("e", 1, 1), 0},
		{of("e", 1, 1), of("f", 1, 1), -1},
		{of("e", 1, 1), of("e", 2, 1), -1},
		{of("e", 1, 1), of("e", 1, 2), -1},
		// What is named first counts first.
		{of("e", 2, 2), of("f", 1, 1), -1},
		{of("e", 2, 1), of("f", 1, 1), -1},
		{of("e", 1, 2), of("f", 1, 1), -1},
		{of("e", 1, 2), of("e", 2, 1), -1},
		{of("e", 2, 3), of("e", 2, 4), -1},
		// Entities, byte by byte.
		{of("", 5, 5), of("\x00", 1, 1), -1},
		{of("e", 5, 5), of("ee", 1, 1), -1},
		{of("e", 5, 5), of("e\x00", 1, 1), -1},
		{of("e\xff", 5, 5), of("f", 1, 1), -1},
		{of("E", 5, 5), of("e", 1, 1), -1},
		{of("z", 5, 5), of("ä", 1, 1), -1},
		{of("\x7f", 5, 5), of("\x80", 1, 1), -1},
		{of("10", 5, 5), of("9", 1, 1), -1},
		// Times and stamps at their ends, and beyond them: none wraps round.
		{of("e", -1<<40, 5), of("e", 1<<40, 1), -1},
		{of("e", -5, 5), of("e", 3, 1), -1},
		{of("e", -5, 5), of("e", -3, 1), -1},
		{of("e", math.MinInt, 5), of("e", math.MaxInt, 1), -1},
		{of("e", 0, math.MinInt), of("e", 0, math.MaxInt), -1},
		{of("e", 0, -1), of("e", 0, 0), -1},
		{of("e", 0, 9), of("e", 0, 10), -1},
		// All else doesn't count.
		{vs(1, 3, "e", sp(0, 9)), vs(2, 3, "e", sp(0, 5)), 0},
		{vs(1, 3, "e", sp(0, 9), fl("a", 1)), vs(1, 3, "e", sp(0, 9), fl("b", 2)), 0},
		{vs(1, 3, "e", sp(0, 9)), api.Version{ID: 7, Stamp: 3, Entity: "e", Gone: true}, 0},
		{api.Version{}, api.Version{ID: 5, Gone: true}, 0},
		{vs(9, 1, "e", sp(0, 9)), vs(1, 2, "e", sp(0, 5)), -1},
		{vs(9, 9, "e", sp(0, 9)), vs(1, 1, "e", sp(1, 5)), -1},
		{gone(1, 9, "e"), vs(1, 1, "e", sp(1, 2)), -1},
		{vs(1, 1, "e", sp(-1, 2)), gone(1, 9, "e"), -1},
	} {
		if got := version.Compare(c.a, c.b); got != c.want {
			t.Errorf("Compare(%#v, %#v) = %d, not %d", c.a, c.b, got, c.want)
		}
		if got := version.Compare(c.b, c.a); got != -c.want {
			t.Errorf("Compare(%#v, %#v) = %d, not %d", c.b, c.a, got, -c.want)
		}
	}
}

// TestCompareOfAll holds all versions of some entities, times and stamps against each other, whatever else they have.
func TestCompareOfAll(t *testing.T) {
	r := rand.New(rand.NewSource(91))
	var l []api.Version
	for _, entity := range []string{"", "\x00", "e", "e\x00", "ee", "f", tooLong, "\xff"} {
		for _, from := range []int{math.MinInt, -1, 0, 1, math.MaxInt} {
			for _, stamp := range []int{math.MinInt, 0, 1, 2, math.MaxInt} {
				v := someVersion(r)
				v.Entity, v.Span.From, v.Stamp = entity, from, stamp
				l = append(l, v)
			}
		}
	}
	for i, a := range l {
		for k, b := range l {
			// They were put in their list in order.
			want := cmp.Compare(i, k)
			if got := version.Compare(a, b); got != want {
				t.Fatalf("Compare(%#v, %#v) = %d, not %d", a, b, got, want)
			}
		}
	}
	for range 20_000 {
		a, b := someVersion(r), someVersion(r)
		if got := version.Compare(a, b); got != slowCompare(a, b) {
			t.Fatalf("Compare(%#v, %#v) = %d, not %d", a, b, got, slowCompare(a, b))
		}
	}
}
