package command_test

import (
	"math"
	"math/rand"
	"slices"
	"strings"
	"testing"

	"erratum/api"
	"erratum/command"
	"erratum/field"
	"erratum/sketch"
	"erratum/version"
)

// Short names of what these tests are written with.
var (
	fl, fs, sp, raw         = sketch.Field, sketch.Fields, sketch.Span, sketch.Raw
	appends, correct, annul = sketch.Append, sketch.Correct, sketch.Annul
	vs, gone                = sketch.Version, sketch.Gone
	same, sameVersion       = sketch.SameCommand, sketch.SameVersion
)

// Entities of as many bytes as one may have, and of one more; spans that are right; and more fields than a command may have, and as many.
const mostBytes, tooLong = sketch.MostBytes, sketch.TooLong

var (
	day, ever   = sketch.Day(), sketch.Ever()
	nine, eight = sketch.Nine(), sketch.Nine()[:8]
)

// Targets that are some, and that are none.
var (
	targets   = []int{1, 2, 127, 128, 1<<40 - 2, 1<<40 - 1, -1, -2, -7, -8}
	noTargets = []int{0, 1 << 40, 1<<40 + 1, 1 << 62, math.MaxInt, -9, -10, -1<<40 + 1, -1 << 62, math.MinInt + 1, math.MinInt}
	noKinds   = []int{0, 4, 5, -1, -2, 1 << 32, 1<<32 + 1, math.MaxInt, math.MinInt, math.MinInt + 1}
)

// slowTarget: is it a target, by the words of the chapter?
func slowTarget(n int) bool { return n >= 1 && n <= 1<<40-1 || n >= -8 && n <= -1 }

// slowRight tells by the words of the chapter what is wrong first with a command.
func slowRight(c api.Command) api.Errno {
	noSetting := c.Span == api.Span{} && len(c.Fields) == 0
	switch c.Kind {
	case 1:
		if c.Target != 0 {
			return api.ErrForm
		}
		if e := version.Entity(c.Entity); e != api.OK {
			return e
		}
	case 2:
		if c.Entity != "" {
			return api.ErrForm
		}
		if !slowTarget(c.Target) {
			return api.ErrArg
		}
	case 3:
		if c.Entity != "" || !noSetting {
			return api.ErrForm
		}
		if !slowTarget(c.Target) {
			return api.ErrArg
		}
		return api.OK
	default:
		return api.ErrArg
	}
	if !sketch.Right(c.Span) {
		return api.ErrSpan
	}
	return field.Right(c.Fields...)
}

// slowMake makes a version by the words of the chapter.
func slowMake(now int, last api.Version, there bool, c api.Command) (api.Version, api.Errno) {
	if e := slowRight(c); e != api.OK {
		return api.Version{}, e
	}
	if now < 0 {
		return api.Version{}, api.ErrArg
	}
	if now >= 1<<40-1 {
		return api.Version{}, api.ErrLimit
	}
	if c.Kind == 1 {
		return vs(now+1, now+1, c.Entity, c.Span, c.Fields...), api.OK
	}
	if !there || last.ID != c.Target {
		return api.Version{}, api.ErrNone
	}
	if last.Gone {
		return api.Version{}, api.ErrGone
	}
	if c.Kind == 3 {
		return gone(c.Target, now+1, last.Entity), api.OK
	}
	return vs(c.Target, now+1, last.Entity, c.Span, c.Fields...), api.OK
}

// Parts of which any commands are made, right and wrong.
var (
	someKinds    = slices.Concat(noKinds, []int{1, 1, 1, 1, 1, 2, 2, 2, 2, 2, 3, 3, 3, 3, 3})
	someTargets  = slices.Concat(targets, noTargets, []int{0, 0, 0, 0, 0, 0, 0, 0, 0, 0, 0, 0, 0, 0, 0, 0})
	someEntities = []string{"", "", "", "e", "\x00", "\xff\xfe", mostBytes, tooLong}
	someSpans    = slices.Concat([]api.Span{{}, {}, {}, {}, {}, {}, day, day, sp(-5, -2), sp(-3, 4), ever, sp(1<<40-1, 1<<40), sp(-1<<40, -1<<40+1)}, sketch.Strange())
	someFields   = [][]api.Field{nil, nil, nil, {}, fs("a1"), fs("a0 b-7"), eight, nine, fs("A1"), {fl("a", 1<<61)}, {fl("a", -1<<61), fl("b", 1<<61-1)}, fs("b1 a1"), fs("a1 a1"), {{}}}
	someNows     = []int{0, 1, 2, 3, 127, 1<<40 - 3, 1<<40 - 2, 1<<40 - 1, 1 << 40, 1 << 62, math.MaxInt, -1, -2, -1 << 40, math.MinInt}
)

// pick answers one of the things.
func pick[T any](r *rand.Rand, l []T) T { return l[r.Intn(len(l))] }

// someCommand answers any command, of which some are right, and some are wrong in one way or several.
func someCommand(r *rand.Rand) api.Command {
	return api.Command{
		Kind: pick(r, someKinds), Entity: pick(r, someEntities), Target: pick(r, someTargets),
		Span: pick(r, someSpans), Fields: pick(r, someFields),
	}
}

// someRight answers a right command; of whatever a command may have something comes, from the least to the greatest.
func someRight(r *rand.Rand) api.Command {
	target := 1 + r.Intn(1<<40-1)>>r.Intn(40)
	if r.Intn(4) == 0 {
		target = -1 - r.Intn(8)
	}
	kind := 1 + r.Intn(3)
	if kind == 3 {
		return annul(target)
	}
	from := r.Intn(1<<40)>>r.Intn(40) - r.Intn(1<<40)>>r.Intn(40)
	setting := sp(from, from+1+r.Intn(1<<40-from)>>r.Intn(42))
	var l []api.Field
	for _, name := range []string{"a", "a-b", "b2", "c", "d", "name", "x", "z-----------"} {
		if r.Intn(3) == 0 {
			l = append(l, fl(name, r.Intn(1<<61)>>r.Intn(62)-r.Intn(1<<61)>>r.Intn(62)))
		}
	}
	if kind == 2 {
		return correct(target, setting, l...)
	}
	entity := make([]byte, 1+r.Intn(24))
	for i := range entity {
		entity[i] = byte(r.Intn(256))
	}
	return appends(string(entity), setting, l...)
}

// with answers a command of which something is changed.
func with(c api.Command, change func(c *api.Command)) api.Command {
	change(&c)
	return c
}

func TestRight(t *testing.T) {
	for _, c := range []struct {
		c    api.Command
		want api.Errno
	}{
		{appends("e", day), api.OK},
		{appends("e", day, []api.Field{}...), api.OK},
		{appends("e", day, fs("a1 b2")...), api.OK},
		{appends(mostBytes, ever, eight...), api.OK},
		{appends("\x00", sp(-1<<40, -1<<40+1), fl("a", -1<<61), fl("abcdefghijkl", 1<<61-1)), api.OK},
		{correct(1, day), api.OK},
		{correct(1<<40-1, ever, eight...), api.OK},
		{correct(-1, sp(1<<40-1, 1<<40), fs("a0")...), api.OK},
		{annul(5), api.OK},
		{annul(-8), api.OK},
		{with(annul(5), func(c *api.Command) { c.Fields = []api.Field{} }), api.OK},
		{api.Command{}, api.ErrArg},
		// An entity.
		{appends("", day), api.ErrArg},
		{appends(tooLong, day), api.ErrBig},
		{appends(strings.Repeat("\x00", 25), day), api.ErrBig},
		// A span.
		{appends("e", api.Span{}), api.ErrSpan},
		{appends("e", sp(3, 3)), api.ErrSpan},
		{appends("e", sp(3, 2)), api.ErrSpan},
		{appends("e", sp(-1<<40-1, 0)), api.ErrSpan},
		{appends("e", sp(0, 1<<40+1)), api.ErrSpan},
		{correct(1, api.Span{}), api.ErrSpan},
		{correct(1, sp(1<<40, 1<<40)), api.ErrSpan},
		{correct(-8, sp(math.MaxInt, math.MinInt)), api.ErrSpan},
		{correct(-8, sp(math.MinInt, math.MaxInt)), api.ErrSpan},
		// Fields.
		{appends("e", day, nine...), api.ErrBig},
		{correct(1, day, nine...), api.ErrBig},
		{appends("e", day, fs("A1")...), api.ErrForm},
		{correct(1, day, api.Field{}), api.ErrForm},
		{correct(1, day, fl("abcdefghijklm", 1)), api.ErrForm},
		{appends("e", day, fl("a", 1<<61)), api.ErrArg},
		{correct(1, day, fl("a", -1<<61-1)), api.ErrArg},
		{appends("e", day, fs("b1 a1")...), api.ErrOrder},
		{correct(1, day, fs("a1 a2")...), api.ErrOrder},
		// What is wrong first is told of, however wrong what follows is.
		{appends("", sp(3, 3), nine...), api.ErrArg},
		{appends(tooLong, sp(3, 3), fs("A1")...), api.ErrBig},
		{appends("e", sp(3, 3), nine...), api.ErrSpan},
		{correct(1, sp(3, 3), nine...), api.ErrSpan},
		{correct(0, sp(3, 3), nine...), api.ErrArg},
		{correct(1<<40, sp(3, 3), fs("A1")...), api.ErrArg},
	} {
		if e := command.Right(c.c); e != c.want {
			t.Errorf("Right(%#v) = %d, not %d", c.c, e, c.want)
		}
	}
}

// TestRightOfStrangeParts gives commands parts that their kinds don't have, one at a time and several together.
func TestRightOfStrangeParts(t *testing.T) {
	for _, right := range []api.Command{appends("e", day), appends(mostBytes, ever, eight...), correct(1, day), correct(-8, day, fs("a1")...), annul(1), annul(-1)} {
		for _, target := range slices.Concat(targets, noTargets) {
			c := with(right, func(c *api.Command) { c.Target = target })
			want := api.OK
			if right.Kind == api.Append && target != 0 {
				want = api.ErrForm
			}
			if right.Kind != api.Append && !slices.Contains(targets, target) {
				want = api.ErrArg
			}
			if e := command.Right(c); e != want {
				t.Errorf("Right(%#v) = %d, not %d", c, e, want)
			}
		}
		for _, entity := range []string{"e", "\x00", mostBytes, tooLong} {
			if right.Kind == api.Append {
				continue
			}
			c := with(right, func(c *api.Command) { c.Entity = entity })
			if e := command.Right(c); e != api.ErrForm {
				t.Errorf("Right(%#v) = %d", c, e)
			}
		}
		for _, a := range append(sketch.Strange(), day, ever, sp(-1, 0), sp(0, 1), sp(1, 0), sp(-1, -1)) {
			c := with(right, func(c *api.Command) { c.Span = a })
			if right.Kind == api.Annul && a != (api.Span{}) {
				if e := command.Right(c); e != api.ErrForm {
					t.Errorf("Right(%#v) = %d", c, e)
				}
			}
		}
		for _, l := range [][]api.Field{fs("a1"), fs("A1"), {{}}, eight, nine} {
			c := with(right, func(c *api.Command) { c.Fields = l })
			if e := command.Right(c); right.Kind == api.Annul && e != api.ErrForm {
				t.Errorf("Right(%#v) = %d", c, e)
			}
		}
	}
	// A part that is strange is told of ahead of a target that is none, and of all else; a kind that is none ahead of that.
	for _, c := range []api.Command{
		{Kind: api.Append, Target: 5, Span: sp(3, 3), Fields: nine},
		{Kind: api.Append, Target: math.MinInt, Entity: tooLong},
		{Kind: api.Correct, Entity: tooLong, Target: 1, Span: sp(3, 3), Fields: nine},
		{Kind: api.Correct, Entity: "e", Span: day},
		{Kind: api.Correct, Entity: "e", Target: 1 << 40},
		{Kind: api.Annul, Entity: "e"},
		{Kind: api.Annul, Entity: "e", Target: -9},
		{Kind: api.Annul, Span: day},
		{Kind: api.Annul, Target: 1 << 40, Span: sp(3, 3)},
		{Kind: api.Annul, Fields: fs("a1")},
		{Kind: api.Annul, Target: -9, Fields: nine},
		{Kind: api.Annul, Target: 0, Entity: tooLong, Span: sp(0, -1), Fields: nine},
	} {
		if e := command.Right(c); e != api.ErrForm {
			t.Errorf("Right(%#v) = %d", c, e)
		}
		for _, kind := range noKinds {
			c.Kind = kind
			if e := command.Right(c); e != api.ErrArg {
				t.Errorf("Right(%#v) = %d", c, e)
			}
		}
	}
}

// TestRightOfTargets goes over the ends of targets.
func TestRightOfTargets(t *testing.T) {
	for i, l := range [][]int{targets, noTargets} {
		want := []api.Errno{api.OK, api.ErrArg}[i]
		for _, target := range l {
			for _, c := range []api.Command{correct(target, day), annul(target)} {
				if e := command.Right(c); e != want {
					t.Errorf("Right(%#v) = %d, not %d", c, e, want)
				}
			}
		}
	}
	for target := -300; target <= 300; target++ {
		if e := command.Right(annul(target)); (e == api.OK) != (target >= -8 && target != 0) {
			t.Errorf("Right of the target %d = %d", target, e)
		}
	}
}

// TestRightOfKinds: three kinds are some, whatever else there is.
func TestRightOfKinds(t *testing.T) {
	for kind := -300; kind <= 300; kind++ {
		for _, right := range []api.Command{{}, appends("e", day), correct(1, day), annul(1)} {
			c := with(right, func(c *api.Command) { c.Kind = kind })
			if e := command.Right(c); e != slowRight(c) {
				t.Errorf("Right(%#v) = %d, not %d", c, e, slowRight(c))
			}
		}
	}
}

// TestRightOfAll goes over all commands of some parts, right and wrong.
func TestRightOfAll(t *testing.T) {
	right := 0
	for _, kind := range []int{-1, 0, 1, 2, 3, 4} {
		for _, target := range someTargets[:len(targets)+len(noTargets)] {
			for _, entity := range someEntities[2:] {
				for _, a := range someSpans[5:] {
					for _, l := range someFields[2:] {
						c := api.Command{Kind: kind, Entity: entity, Target: target, Span: a, Fields: l}
						e := command.Right(c)
						if e != slowRight(c) {
							t.Fatalf("Right(%#v) = %d, not %d", c, e, slowRight(c))
						}
						if e == api.OK {
							right++
						}
					}
				}
			}
		}
	}
	if right < 500 {
		t.Errorf("only %d are right", right)
	}
}

func TestMake(t *testing.T) {
	last := vs(5, 7, "e", day, fs("a1")...)
	away := gone(5, 7, "e")
	add, change, end := appends("f", sp(3, 4), fs("b2 c3")...), correct(5, sp(-3, 4), fs("d4")...), annul(5)
	for _, c := range []struct {
		now   int
		last  api.Version
		there bool
		c     api.Command
		want  api.Version
		e     api.Errno
	}{
		{0, api.Version{}, false, add, vs(1, 1, "f", sp(3, 4), fs("b2 c3")...), api.OK},
		{7, api.Version{}, false, add, vs(8, 8, "f", sp(3, 4), fs("b2 c3")...), api.OK},
		{1<<40 - 2, api.Version{}, false, add, vs(1<<40-1, 1<<40-1, "f", sp(3, 4), fs("b2 c3")...), api.OK},
		{7, api.Version{}, false, appends(mostBytes, ever), vs(8, 8, mostBytes, ever), api.OK},
		{7, last, true, change, vs(5, 8, "e", sp(-3, 4), fs("d4")...), api.OK},
		{7, last, true, correct(5, ever), vs(5, 8, "e", ever), api.OK},
		{300, last, true, change, vs(5, 301, "e", sp(-3, 4), fs("d4")...), api.OK},
		{1<<40 - 2, last, true, change, vs(5, 1<<40-1, "e", sp(-3, 4), fs("d4")...), api.OK},
		{7, last, true, end, gone(5, 8, "e"), api.OK},
		{1<<40 - 2, last, true, end, gone(5, 1<<40-1, "e"), api.OK},
		{5, vs(5, 5, mostBytes, day), true, end, gone(5, 6, mostBytes), api.OK},
		// An append asks nothing of last.
		{7, last, true, add, vs(8, 8, "f", sp(3, 4), fs("b2 c3")...), api.OK},
		{7, away, true, add, vs(8, 8, "f", sp(3, 4), fs("b2 c3")...), api.OK},
		{7, last, false, add, vs(8, 8, "f", sp(3, 4), fs("b2 c3")...), api.OK},
		{7, api.Version{}, true, add, vs(8, 8, "f", sp(3, 4), fs("b2 c3")...), api.OK},
		{7, vs(0, 0, "f", day), true, add, vs(8, 8, "f", sp(3, 4), fs("b2 c3")...), api.OK},
		// Stamps.
		{-1, last, true, add, api.Version{}, api.ErrArg},
		{-1, last, true, change, api.Version{}, api.ErrArg},
		{-1, last, true, end, api.Version{}, api.ErrArg},
		{math.MinInt, last, true, end, api.Version{}, api.ErrArg},
		{-1, api.Version{}, false, end, api.Version{}, api.ErrArg},
		{1<<40 - 1, last, true, add, api.Version{}, api.ErrLimit},
		{1<<40 - 1, last, true, change, api.Version{}, api.ErrLimit},
		{1<<40 - 1, last, true, end, api.Version{}, api.ErrLimit},
		{1 << 40, last, true, end, api.Version{}, api.ErrLimit},
		{math.MaxInt, api.Version{}, false, add, api.Version{}, api.ErrLimit},
		{math.MaxInt, api.Version{}, false, change, api.Version{}, api.ErrLimit},
		{1<<40 - 1, away, true, change, api.Version{}, api.ErrLimit},
		// What is not there, or another one, or gone.
		{7, api.Version{}, false, change, api.Version{}, api.ErrNone},
		{7, api.Version{}, false, end, api.Version{}, api.ErrNone},
		{7, api.Version{}, true, end, api.Version{}, api.ErrNone},
		{7, last, false, change, api.Version{}, api.ErrNone},
		{7, last, false, end, api.Version{}, api.ErrNone},
		{7, away, false, end, api.Version{}, api.ErrNone},
		{7, last, true, correct(6, day), api.Version{}, api.ErrNone},
		{7, last, true, annul(4), api.Version{}, api.ErrNone},
		{7, last, true, annul(7), api.Version{}, api.ErrNone},
		{7, last, true, annul(-5), api.Version{}, api.ErrNone},
		{7, last, true, correct(-1, day), api.Version{}, api.ErrNone},
		{7, away, true, annul(4), api.Version{}, api.ErrNone},
		{7, away, true, change, api.Version{}, api.ErrGone},
		{7, away, true, end, api.Version{}, api.ErrGone},
		// A command that may not be is told of ahead of all else.
		{-1, api.Version{}, false, api.Command{}, api.Version{}, api.ErrArg},
		{-1, away, true, appends(tooLong, day), api.Version{}, api.ErrBig},
		{1 << 40, away, true, appends("", day), api.Version{}, api.ErrArg},
		{1 << 40, away, true, with(annul(5), func(c *api.Command) { c.Entity = "e" }), api.Version{}, api.ErrForm},
		{1 << 40, last, false, correct(5, sp(3, 3)), api.Version{}, api.ErrSpan},
		{7, away, true, correct(5, day, fs("b1 a1")...), api.Version{}, api.ErrOrder},
		{7, last, true, annul(0), api.Version{}, api.ErrArg},
		{7, api.Version{}, true, annul(0), api.Version{}, api.ErrArg},
		{1 << 40, vs(1<<40, 1<<40, "e", day), true, annul(1 << 40), api.Version{}, api.ErrArg},
	} {
		v, e := command.Make(c.now, c.last, c.there, c.c)
		if !sameVersion(v, c.want) || e != c.e {
			t.Errorf("Make(%d, %#v, %t, %#v) = %#v, %d, not %#v, %d", c.now, c.last, c.there, c.c, v, e, c.want, c.e)
		}
		if right := version.Right(v); e == api.OK && right != api.OK {
			t.Errorf("Make(%d, %#v, %t, %#v) = %#v, which may not be: %d", c.now, c.last, c.there, c.c, v, right)
		}
	}
}

// recorded answers a version that may have been recorded last at the stamp now, or above 0 at a lesser one.
func recorded(r *rand.Rand, now int) api.Version {
	stamp := max(1, now-r.Intn(3))
	v := vs(1+r.Intn(stamp), stamp, pick(r, []string{"e", "\x00", mostBytes}), pick(r, []api.Span{day, ever, sp(-5, -2)}), pick(r, [][]api.Field{nil, fs("a1"), eight})...)
	if v.ID < v.Stamp && r.Intn(3) == 0 {
		v = gone(v.ID, v.Stamp, v.Entity)
	}
	return v
}

// TestMakeOfMany makes versions of any commands behind any stamps, and holds them against the words of the chapter.
func TestMakeOfMany(t *testing.T) {
	r := rand.New(rand.NewSource(141))
	told := map[api.Errno]int{}
	for range 200_000 {
		now, there, c := pick(r, someNows), r.Intn(4) > 0, someCommand(r)
		if r.Intn(2) == 0 {
			c = someRight(r)
		}
		last := recorded(r, min(max(now, 0), 1<<40-1))
		if c.Kind != api.Append && r.Intn(3) > 0 {
			c.Target = last.ID
		}
		want, wantE := slowMake(now, last, there, c)
		v, e := command.Make(now, last, there, c)
		if !sameVersion(v, want) || e != wantE {
			t.Fatalf("Make(%d, %#v, %t, %#v) = %#v, %d, not %#v, %d", now, last, there, c, v, e, want, wantE)
		}
		told[e]++
		// Behind 0 nothing is recorded that a command could mean.
		if e != api.OK || now == 0 && c.Kind != api.Append {
			continue
		}
		if right := version.Right(v); right != api.OK {
			t.Fatalf("Make(%d, %#v, %t, %#v) = %#v, which may not be: %d", now, last, there, c, v, right)
		}
		if v.Gone != (c.Kind == api.Annul) || v.Stamp != now+1 {
			t.Fatalf("Make(%d, %#v, %t, %#v) = %#v", now, last, there, c, v)
		}
	}
	for _, e := range []api.Errno{api.OK, api.ErrArg, api.ErrForm, api.ErrSpan, api.ErrBig, api.ErrOrder, api.ErrLimit, api.ErrNone, api.ErrGone} {
		if told[e] < 20 {
			t.Errorf("the error %d is told %d times", e, told[e])
		}
	}
}

// TestMakeOneByOne makes versions one behind the other, each command meaning what was made ahead of it.
func TestMakeOneByOne(t *testing.T) {
	last := map[int]api.Version{}
	for now, c := range []struct {
		c    api.Command
		want api.Version
		e    api.Errno
	}{
		{appends("e", day, fs("a1")...), vs(1, 1, "e", day, fs("a1")...), api.OK},
		{correct(1, sp(0, 4), fs("a2")...), vs(1, 2, "e", sp(0, 4), fs("a2")...), api.OK},
		{appends("f", day), vs(3, 3, "f", day), api.OK},
		{annul(1), gone(1, 4, "e"), api.OK},
		{annul(3), gone(3, 5, "f"), api.OK},
		{annul(1), api.Version{}, api.ErrGone},
		{correct(3, day), api.Version{}, api.ErrGone},
		{annul(2), api.Version{}, api.ErrNone},
	} {
		ahead, there := last[c.c.Target]
		v, e := command.Make(now, ahead, there, c.c)
		if !sameVersion(v, c.want) || e != c.e {
			t.Errorf("%d: Make(%#v) = %#v, %d, not %#v, %d", now, c.c, v, e, c.want, c.e)
		}
		if e == api.OK {
			last[v.ID] = v
		}
	}
}
