package diff_test

import (
	"fmt"
	"math/rand"
	"slices"
	"testing"

	"erratum/api"
	"erratum/diff"
)

func TestApply(t *testing.T) {
	two := pieces(pc(0, 3, "a1"), pc(3, 6, "a2"), pc(8, 9, ""))
	for _, c := range []struct {
		a    []api.Piece
		l    []diff.Change
		want []api.Piece
	}{
		// No change.
		{nil, nil, nil},
		{pieces(), changes(), nil},
		{two, nil, two},
		{two, changes(), two},
		// One, of a whole piece.
		{two, changes(ch(0, 3, "a1", "a7")), pieces(pc(0, 3, "a7"), pc(3, 6, "a2"), pc(8, 9, ""))},
		{two, changes(ch(0, 3, "a1", ".")), pieces(pc(3, 6, "a2"), pc(8, 9, ""))},
		{two, changes(ch(3, 6, "a2", "")), pieces(pc(0, 3, "a1"), pc(3, 6, ""), pc(8, 9, ""))},
		{two, changes(ch(8, 9, "", ".")), pieces(pc(0, 3, "a1"), pc(3, 6, "a2"))},
		// One, of a part of a piece.
		{two, changes(ch(0, 2, "a1", ".")), pieces(pc(2, 3, "a1"), pc(3, 6, "a2"), pc(8, 9, ""))},
		{two, changes(ch(4, 5, "a2", "a7")), pieces(pc(0, 3, "a1"), pc(3, 4, "a2"), pc(4, 5, "a7"), pc(5, 6, "a2"), pc(8, 9, ""))},
		{two, changes(ch(4, 5, "a2", ".")), pieces(pc(0, 3, "a1"), pc(3, 4, "a2"), pc(5, 6, "a2"), pc(8, 9, ""))},
		{two, changes(ch(5, 6, "a2", "b1")), pieces(pc(0, 3, "a1"), pc(3, 5, "a2"), pc(5, 6, "b1"), pc(8, 9, ""))},
		// One, where there is nothing: ahead, between, behind.
		{nil, changes(ch(2, 4, ".", "a1")), pieces(pc(2, 4, "a1"))},
		{two, changes(ch(-4, -2, ".", "a7")), pieces(pc(-4, -2, "a7"), pc(0, 3, "a1"), pc(3, 6, "a2"), pc(8, 9, ""))},
		{two, changes(ch(-4, 0, ".", "a7")), pieces(pc(-4, 0, "a7"), pc(0, 3, "a1"), pc(3, 6, "a2"), pc(8, 9, ""))},
		{two, changes(ch(6, 8, ".", "a7")), pieces(pc(0, 3, "a1"), pc(3, 6, "a2"), pc(6, 8, "a7"), pc(8, 9, ""))},
		{two, changes(ch(9, 20, ".", "a7")), pieces(pc(0, 3, "a1"), pc(3, 6, "a2"), pc(8, 9, ""), pc(9, 20, "a7"))},
		// One that changes nothing.
		{two, changes(ch(1, 2, "a1", "a1")), two},
		{two, changes(ch(0, 3, "a1", "a1")), two},
		{two, changes(ch(8, 9, "", "")), two},
		{two, changes(ch(6, 8, ".", ".")), two},
		{nil, changes(ch(6, 8, ".", ".")), nil},
		// What is had or there just counts where something is had or there.
		{two, changes(diff.Change{Span: sp(6, 8), Old: fs("a1"), New: fs("a2")}), two},
		{two, changes(diff.Change{Span: sp(0, 3), Had: true, Old: fs("a1"), New: fs("a2")}), two[1:]},
		// Several, apart and touching.
		{two, changes(ch(0, 1, "a1", "."), ch(2, 3, "a1", ".")), pieces(pc(1, 2, "a1"), pc(3, 6, "a2"), pc(8, 9, ""))},
		{two, changes(ch(0, 1, "a1", "."), ch(1, 3, "a1", "a7"), ch(5, 6, "a2", ""), ch(6, 8, ".", "b1")), pieces(pc(1, 3, "a7"), pc(3, 5, "a2"), pc(5, 6, ""), pc(6, 8, "b1"), pc(8, 9, ""))},
		{two, changes(ch(0, 3, "a1", "a2"), ch(3, 6, "a2", "a1")), pieces(pc(0, 3, "a2"), pc(3, 6, "a1"), pc(8, 9, ""))},
		{two, changes(ch(0, 3, "a1", "."), ch(3, 6, "a2", "."), ch(8, 9, "", ".")), nil},
		// Pieces become one: with the one ahead, with the one behind, with both, and with one another.
		{two, changes(ch(3, 6, "a2", "a1")), pieces(pc(0, 6, "a1"), pc(8, 9, ""))},
		{two, changes(ch(3, 5, "a2", "a1")), pieces(pc(0, 5, "a1"), pc(5, 6, "a2"), pc(8, 9, ""))},
		{two, changes(ch(1, 3, "a1", "a2")), pieces(pc(0, 1, "a1"), pc(1, 6, "a2"), pc(8, 9, ""))},
		{two, changes(ch(7, 8, ".", "")), pieces(pc(0, 3, "a1"), pc(3, 6, "a2"), pc(7, 9, ""))},
		{two, changes(ch(9, 11, ".", "")), pieces(pc(0, 3, "a1"), pc(3, 6, "a2"), pc(8, 11, ""))},
		{pieces(pc(0, 3, "a1"), pc(3, 6, "a2"), pc(6, 9, "a1")), changes(ch(3, 6, "a2", "a1")), pieces(pc(0, 9, "a1"))},
		{pieces(pc(0, 3, "a1"), pc(6, 9, "a1")), changes(ch(3, 6, ".", "a1")), pieces(pc(0, 9, "a1"))},
		{pieces(pc(0, 3, ""), pc(6, 9, "")), changes(ch(3, 4, ".", ""), ch(4, 6, ".", "")), pieces(pc(0, 9, ""))},
		{nil, changes(ch(0, 3, ".", "a1"), ch(3, 6, ".", "a1")), pieces(pc(0, 6, "a1"))},
		{nil, changes(ch(0, 3, ".", "a1"), ch(4, 6, ".", "a1")), pieces(pc(0, 3, "a1"), pc(4, 6, "a1"))},
		{two, changes(ch(0, 3, "a1", "a7"), ch(3, 6, "a2", "a7")), pieces(pc(0, 6, "a7"), pc(8, 9, ""))},
		{two, changes(ch(0, 3, "a1", ""), ch(3, 6, "a2", ""), ch(6, 8, ".", "")), pieces(pc(0, 9, ""))},
		// Fields that are not right lists stay as they are.
		{pieces(pc(0, 3, "b1 a1 a2")), changes(ch(1, 2, "b1 a1 a2", "c1 B1 c1")), pieces(pc(0, 1, "b1 a1 a2"), pc(1, 2, "c1 B1 c1"), pc(2, 3, "b1 a1 a2"))},
		// The least and greatest times.
		{nil, changes(ch(-1<<40, 1<<40, ".", "a1")), pieces(pc(-1<<40, 1<<40, "a1"))},
		{pieces(pc(-1<<40, 1<<40, "a1")), changes(ch(-1<<40, 1<<40, "a1", ".")), nil},
		{pieces(pc(-1<<40, 1<<40, "a1")), changes(ch(-1<<40, -1<<40+1, "a1", "."), ch(1<<40-1, 1<<40, "a1", "")), pieces(pc(-1<<40+1, 1<<40-1, "a1"), pc(1<<40-1, 1<<40, ""))},
		{pieces(pc(-1<<40+1, 1<<40-1, "a1")), changes(ch(-1<<40, -1<<40+1, ".", "a1"), ch(1<<40-1, 1<<40, ".", "a1")), pieces(pc(-1<<40, 1<<40, "a1"))},
	} {
		if got, e := diff.Apply(c.a, c.l...); e != api.OK || !same(got, c.want) {
			t.Errorf("Apply(%v, %v) = %v, %d, not %v", c.a, c.l, got, e, c.want)
		}
	}
}

func TestApplyErrors(t *testing.T) {
	two := pieces(pc(0, 3, "a1"), pc(3, 6, "a2"), pc(8, 9, ""))
	for _, c := range []struct {
		a    []api.Piece
		l    []diff.Change
		want api.Errno
	}{
		// A span that is not right, alone and behind one that is.
		{two, changes(ch(2, 2, "a1", "a7")), api.ErrSpan},
		{two, changes(ch(2, 1, "a1", "a7")), api.ErrSpan},
		{two, changes(ch(6, 6, ".", ".")), api.ErrSpan},
		{nil, changes(ch(-1<<40-1, 0, ".", ".")), api.ErrSpan},
		{nil, changes(ch(0, 1<<40+1, ".", ".")), api.ErrSpan},
		{two, changes(ch(0, 1, "a1", "."), ch(2, 2, "a1", "a7")), api.ErrSpan},
		// One that begins ahead of the end of the one ahead: overlapping, the same, within, and wholly ahead.
		{two, changes(ch(0, 2, "a1", "."), ch(1, 3, "a1", ".")), api.ErrOrder},
		{two, changes(ch(0, 2, "a1", "a1"), ch(0, 2, "a1", "a1")), api.ErrOrder},
		{two, changes(ch(0, 3, "a1", "."), ch(1, 2, "a1", ".")), api.ErrOrder},
		{two, changes(ch(1, 2, "a1", "."), ch(0, 1, "a1", ".")), api.ErrOrder},
		{two, changes(ch(3, 6, "a2", "."), ch(0, 3, "a1", ".")), api.ErrOrder},
		{two, changes(ch(8, 9, "", "."), ch(0, 1, "a1", ".")), api.ErrOrder},
		{two, changes(ch(0, 1, "a1", "."), ch(2, 3, "a1", "."), ch(1, 2, "a1", ".")), api.ErrOrder},
		// What a has not: other fields, nothing, something where nothing is said.
		{two, changes(ch(0, 3, "a2", ".")), api.ErrState},
		{two, changes(ch(0, 3, "", ".")), api.ErrState},
		{two, changes(ch(0, 3, "a1 b1", ".")), api.ErrState},
		{two, changes(ch(0, 3, ".", "a1")), api.ErrState},
		{two, changes(ch(8, 9, "a1", ".")), api.ErrState},
		{two, changes(ch(8, 9, ".", ".")), api.ErrState},
		{two, changes(ch(6, 8, "", "")), api.ErrState},
		{two, changes(ch(-5, -3, "a1", ".")), api.ErrState},
		{two, changes(ch(10, 12, "", ".")), api.ErrState},
		{nil, changes(ch(0, 3, "a1", "a1")), api.ErrState},
		{nil, changes(ch(0, 3, "", "")), api.ErrState},
		{pieces(pc(0, 3, "a1 b1")), changes(ch(0, 3, "b1 a1", ".")), api.ErrState},
		// At some time of its span alone: at the first one, at the last one, in the midst.
		{two, changes(ch(-1, 3, "a1", ".")), api.ErrState},
		{two, changes(ch(0, 4, "a1", ".")), api.ErrState},
		{two, changes(ch(2, 6, "a2", ".")), api.ErrState},
		{two, changes(ch(5, 7, "a2", ".")), api.ErrState},
		{two, changes(ch(5, 8, ".", "a1")), api.ErrState},
		{two, changes(ch(6, 9, ".", "a1")), api.ErrState},
		{two, changes(ch(7, 12, ".", "a1")), api.ErrState},
		{two, changes(ch(-1, 1, ".", "a1")), api.ErrState},
		{pieces(pc(0, 3, "a1"), pc(4, 7, "a1")), changes(ch(0, 7, "a1", ".")), api.ErrState},
		{pieces(pc(0, 3, "a1"), pc(3, 4, "a2"), pc(4, 7, "a1")), changes(ch(0, 7, "a1", ".")), api.ErrState},
		// Over several pieces of the list.
		{two, changes(ch(0, 6, "a1", "a2")), api.ErrState},
		{two, changes(ch(0, 9, ".", "a2")), api.ErrState},
		{two, changes(ch(-1<<40, 1<<40, ".", "a2")), api.ErrState},
		{two, changes(ch(-1<<40, 1<<40, "a1", ".")), api.ErrState},
		// What an earlier change says is there from now on was not had.
		{two, changes(ch(0, 1, "a1", "a7"), ch(1, 3, "a7", ".")), api.ErrState},
		// Of several errors of one change the one that is named first.
		{two, changes(ch(0, 2, "a1", "."), ch(1, 1, "a1", ".")), api.ErrSpan},
		{two, changes(ch(0, 2, "a1", "."), ch(1, 1, "a2", ".")), api.ErrSpan},
		{two, changes(ch(5, 2, "a7", ".")), api.ErrSpan},
		{two, changes(ch(0, 2, "a1", "."), ch(1, 3, "a2", ".")), api.ErrOrder},
		// Of several changes the first one's, whatever it is.
		{two, changes(ch(0, 2, "a7", "."), ch(2, 2, "a1", ".")), api.ErrState},
		{two, changes(ch(0, 2, "a7", "."), ch(1, 3, "a1", ".")), api.ErrState},
		{two, changes(ch(0, 2, "a1", "."), ch(1, 3, "a1", "."), ch(4, 4, "a2", ".")), api.ErrOrder},
		{two, changes(ch(0, 2, "a1", "."), ch(2, 4, "a1", "."), ch(3, 3, "a2", ".")), api.ErrState},
		{two, changes(ch(2, 2, "a1", "."), ch(0, 2, "a7", ".")), api.ErrSpan},
		{two, changes(ch(0, 2, "a1", "."), ch(2, 4, "a1", "."), ch(3, 5, "a2", ".")), api.ErrState},
	} {
		if got, e := diff.Apply(c.a, c.l...); e != c.want || len(got) != 0 {
			t.Errorf("Apply(%v, %v) = %v, %d, not %d", c.a, c.l, got, e, c.want)
		}
	}
	for _, a := range strange {
		for _, l := range [][]diff.Change{changes(diff.Change{Span: a}), changes(ch(0, 1, "a1", "."), diff.Change{Span: a, Had: true, Has: true})} {
			if got, e := diff.Apply(two, l...); e != api.ErrSpan || len(got) != 0 {
				t.Errorf("Apply(%v, %v) = %v, %d", two, l, got, e)
			}
		}
	}
}

// TestApplyToNone: that a list is no timeline is told ahead of all else.
func TestApplyToNone(t *testing.T) {
	for _, a := range none {
		for _, l := range [][]diff.Change{nil, changes(ch(0, 1, "a1", ".")), changes(ch(50, 60, ".", "a1")), changes(ch(3, 3, ".", ".")), changes(ch(50, 60, ".", "."), ch(50, 60, ".", "."))} {
			if got, e := diff.Apply(a, l...); e != api.ErrArg || len(got) != 0 {
				t.Errorf("Apply(%v, %v) = %v, %d", a, l, got, e)
			}
		}
	}
}

// letters is a change of a timeline that is written as a word: at the times from a place on and below another one it had a letter, and now has another one.
type letters struct {
	from, to int
	old, now byte
}

// smallChanges answers all changes of the letters that begin and end, rightly or not, from ahead of the word to behind it.
func smallChanges(of string, long int) []letters {
	var l []letters
	for from := -1; from <= long+1; from++ {
		for to := -1; to <= long+1; to++ {
			for _, word := range words(of, 2) {
				l = append(l, letters{from, to, word[0], word[1]})
			}
		}
	}
	return l
}

// rewritten answers by the words of the chapter what changes make of a word, whose first letter is that of a time; all other times have nothing.
func rewritten(from int, word string, l []letters) (string, api.Errno) {
	// A place more on both sides, for what is put there.
	old := []byte("." + word + ".")
	now := slices.Clone(old)
	for i, c := range l {
		if !right(sp(from+c.from, from+c.to)) {
			return "", api.ErrSpan
		}
		if i > 0 && c.from < l[i-1].to {
			return "", api.ErrOrder
		}
		for at := c.from; at < c.to; at++ {
			if old[at+1] != c.old {
				return "", api.ErrState
			}
			now[at+1] = c.now
		}
	}
	return string(now), api.OK
}

// faultOfWord holds Apply of changes to a word's timeline against the words of the chapter.
func faultOfWord(from int, word string, l ...letters) string {
	var cs []diff.Change
	for _, c := range l {
		cs = append(cs, ch(from+c.from, from+c.to, written(c.old), written(c.now)))
	}
	a := line(from, word)
	now, wanted := rewritten(from, word, l)
	want := line(from-1, now)
	if got, e := diff.Apply(a, cs...); e != wanted || !same(got, want) {
		return fmt.Sprintf("Apply(%v, %v) = %v, %d, not %v, %d", a, cs, got, e, want, wanted)
	}
	return ""
}

// TestApplyOfAll applies all small changes to all small timelines, one at a time and two.
func TestApplyOfAll(t *testing.T) {
	for _, from := range around(3) {
		all := smallChanges(".-12", 3)
		for _, word := range words(".-12", 3) {
			for _, c := range all {
				if fault := faultOfWord(from, word, c); fault != "" {
					t.Fatal(fault)
				}
			}
		}
	}
	for _, from := range []int{-1 << 40, -1, 1<<40 - 2} {
		all := smallChanges(".-1", 2)
		for _, word := range words(".-1", 2) {
			for _, c := range all {
				for _, d := range all {
					if fault := faultOfWord(from, word, c, d); fault != "" {
						t.Fatal(fault)
					}
				}
			}
		}
	}
}

// slowWrong answers by the words of the chapter which error is to be told, or OK.
func slowWrong(a []api.Piece, l []diff.Change) api.Errno {
	if !slowRight(a) {
		return api.ErrArg
	}
	for i, c := range l {
		if !right(c.Span) {
			return api.ErrSpan
		}
		if i > 0 && c.Span.From < l[i-1].Span.To {
			return api.ErrOrder
		}
		for _, t := range append(bordersOf(a), c.Span.From) {
			fields, had := slowAt(a, t)
			if has(c.Span, t) && (had != c.Had || had && !slices.Equal(fields, c.Old)) {
				return api.ErrState
			}
		}
	}
	return api.OK
}

// slowApplied answers by the words of the chapter what the timeline has at a time behind the changes.
func slowApplied(a []api.Piece, l []diff.Change, t int) ([]api.Field, bool) {
	for _, c := range l {
		switch {
		case !has(c.Span, t):
		case c.Has:
			return c.New, true
		default:
			return nil, false
		}
	}
	return slowAt(a, t)
}

// faultOfApply holds Apply against the words of the chapter.
func faultOfApply(a []api.Piece, l []diff.Change) string {
	got, e := diff.Apply(a, l...)
	if want := slowWrong(a, l); e != want {
		return fmt.Sprintf("Apply(%v, %v) = %v, %d, not %d", a, l, got, e, want)
	}
	if e != api.OK && len(got) != 0 || !slowRight(got) {
		return fmt.Sprintf("Apply(%v, %v) = %v, %d", a, l, got, e)
	}
	if e != api.OK {
		return ""
	}
	times := bordersOf(a, got)
	for _, c := range l {
		times = append(times, c.Span.From-1, c.Span.From, c.Span.To-1, c.Span.To)
	}
	for _, t := range times {
		want, there := slowApplied(a, l, t)
		if fields, ok := slowAt(got, t); ok != there || !slices.Equal(fields, want) {
			return fmt.Sprintf("Apply(%v, %v) = %v: at %d %v, %t is wanted", a, l, got, t, want, there)
		}
	}
	return ""
}

// fitting answers changes that say what the timeline had, over parts of its pieces and of what lies between.
func fitting(r *rand.Rand, a []api.Piece) []diff.Change {
	var l []diff.Change
	at := pick(r, []int{-1 << 40, -3, 0, 2})
	for range r.Intn(5) {
		c := ch(at, 1<<40, ".", pick(r, append(someFields, ".", ".")))
		for _, p := range a {
			switch {
			case has(p.Span, at):
				c.Had, c.Old, c.Span.To = true, p.Fields, p.Span.To
			case at < p.Span.From:
				c.Span.To = min(c.Span.To, p.Span.From)
			}
		}
		if r.Intn(3) > 0 {
			c.Span.To = min(c.Span.To, at+1+r.Intn(4))
		}
		l = append(l, c)
		if at = c.Span.To + r.Intn(3); at >= 1<<40 {
			break
		}
	}
	return l
}

// TestApplyOfMany applies changes that fit, some with one among them that need not, and any changes.
func TestApplyOfMany(t *testing.T) {
	r := rand.New(rand.NewSource(123))
	told := map[api.Errno]int{}
	for range 60_000 {
		a := someTimeline(r, 6)
		if r.Intn(10) == 0 {
			a = spoilt(r, a)
		}
		l := fitting(r, a)
		if len(l) > 0 && r.Intn(3) == 0 {
			c := &l[r.Intn(len(l))]
			switch r.Intn(4) {
			case 0:
				*c = someChange(r)
			case 1:
				c.Span.To++
			case 2:
				c.Span.From--
			case 3:
				c.Had = !c.Had
			}
		}
		if fault := faultOfApply(a, l); fault != "" {
			t.Fatal(fault)
		}
		told[slowWrong(a, l)]++
	}
	for _, e := range []api.Errno{api.OK, api.ErrArg, api.ErrSpan, api.ErrOrder, api.ErrState} {
		if told[e] < 100 {
			t.Errorf("the error %d was told %d times", e, told[e])
		}
	}
}

// copiedChanges answers changes that share nothing with what they are of.
func copiedChanges(l []diff.Change) []diff.Change {
	told := slices.Clone(l)
	for i := range told {
		told[i].Old, told[i].New = slices.Clone(told[i].Old), slices.Clone(told[i].New)
	}
	return told
}

// overwritten writes to all fields of lists, and puts more behind them, in the room that they may have.
func overwritten(lists ...[]api.Field) {
	for _, fields := range lists {
		for i := range fields {
			fields[i] = fl("overwritten", -7)
		}
		_ = append(fields, fl("behind", -7))
	}
}

// fieldsOf and changedFields answer all lists of fields that there are.
func fieldsOf(l []api.Piece) [][]api.Field {
	var all [][]api.Field
	for _, p := range l {
		all = append(all, p.Fields)
	}
	return all
}

func changedFields(l []diff.Change) [][]api.Field {
	var all [][]api.Field
	for _, c := range l {
		all = append(all, c.Old, c.New)
	}
	return all
}

// TestAnswersAreNew writes to answers, and then to arguments: neither is seen in the other, nor in another answer, nor in the next list of fields.
func TestAnswersAreNew(t *testing.T) {
	type answer struct {
		pieces  []api.Piece
		changes []diff.Change
	}
	lists := func() (a, b []api.Piece, l []diff.Change) {
		a = pieces(pc(0, 9, "a1 b2"), pc(9, 12, "a3 b3"))
		b = pieces(pc(2, 5, "a4 b4"), pc(5, 7, "a5 b5"))
		return a, b, changes(ch(1, 3, "a1 b2", "a6 b6"), ch(4, 5, "a1 b2", "a6 b6"), ch(20, 25, ".", "a7 b7"))
	}
	calls := map[string]func(a, b []api.Piece, l []diff.Change) answer{
		"Of":   func(a, b []api.Piece, l []diff.Change) answer { return answer{changes: diff.Of(a, b)} },
		"Back": func(a, b []api.Piece, l []diff.Change) answer { return answer{changes: diff.Back(l...)} },
		"Apply": func(a, b []api.Piece, l []diff.Change) answer {
			applied, _ := diff.Apply(a, l...)
			return answer{pieces: applied}
		},
		"Apply of none": func(a, b []api.Piece, l []diff.Change) answer {
			applied, _ := diff.Apply(a)
			return answer{pieces: applied}
		},
	}
	all := func(told answer) [][]api.Field {
		return append(fieldsOf(told.pieces), changedFields(told.changes)...)
	}
	for name, call := range calls {
		a, b, l := lists()
		got, again, want := call(a, b, l), call(a, b, l), call(lists())
		if len(all(got)) < 2 {
			t.Errorf("%s answers %v", name, got)
		}
		overwritten(all(got)...)
		if keptA, keptB, keptL := lists(); !same(a, keptA) || !same(b, keptB) || !sameChanges(l, keptL) {
			t.Errorf("%s: what was written to the answer is in %v, %v, %v", name, a, b, l)
		}
		overwritten(slices.Concat(fieldsOf(a), fieldsOf(b), changedFields(l))...)
		for i, fields := range all(want) {
			if !slices.Equal(all(again)[i], fields) {
				t.Errorf("%s: what was written to another answer, or to an argument, is in %v, not %v", name, again, want)
			}
			// Those behind are looked at in the next turns.
			overwritten(all(again)[i])
		}
	}
}

// TestArgumentsStay: no call writes to its arguments, nor to the room behind them.
func TestArgumentsStay(t *testing.T) {
	r := rand.New(rand.NewSource(124))
	for range 5000 {
		a, b := someTimeline(r, 6), append(someTimeline(r, 6), pc(80, 81, "r2"))
		l := append(fitting(r, a), ch(90, 91, ".", "r3"))
		a = append(a, pc(70, 71, "r1"))
		keptA, keptB, keptL := copied(a), copied(b), copiedChanges(l)
		shortA, shortB, shortL := a[:len(a)-1], b[:len(b)-1], l[:len(l)-1]
		diff.Of(shortA, shortB)
		diff.Of(shortA, shortA)
		diff.Back(shortL...)
		if _, e := diff.Apply(shortA, shortL...); e != api.OK {
			t.Fatalf("Apply(%v, %v) tells %d", shortA, shortL, e)
		}
		if !same(a, keptA) || !same(b, keptB) || !sameChanges(l, keptL) {
			t.Fatalf("%v, %v, %v became %v, %v, %v", keptA, keptB, keptL, a, b, l)
		}
	}
}

// TestEndsEverywhere calls all with spans that begin and end at the ends of all that may be given (P1).
func TestEndsEverywhere(t *testing.T) {
	var spans []api.Span
	for _, from := range ends {
		for _, to := range ends {
			spans = append(spans, sp(from, to))
		}
	}
	for _, x := range spans {
		for _, y := range spans {
			a, b := pieces(api.Piece{Span: x, Fields: fs("a1")}), pieces(api.Piece{Span: y, Fields: fs("a2")})
			if fault := faultOfOf(a, b); fault != "" {
				t.Fatal(fault)
			}
			there := diff.Change{Span: y, Had: true, Has: true, Old: fs("a1"), New: fs("a2")}
			back := diff.Back(there)
			for _, l := range [][]diff.Change{changes(there), back, changes(diff.Change{Span: y, Has: true}), changes(there, diff.Change{Span: x, Had: true})} {
				if fault := faultOfApply(a, l); fault != "" {
					t.Fatal(fault)
				}
			}
		}
	}
}

// TestManyPieces: long lists end, too.
func TestManyPieces(t *testing.T) {
	const n = 1 << 16
	var a, b []api.Piece
	for i := range n {
		a = append(a, api.Piece{Span: sp(2*i, 2*i+2), Fields: []api.Field{fl("a", i)}})
		b = append(b, api.Piece{Span: sp(2*i+1, 2*i+3), Fields: []api.Field{fl("b", i)}})
	}
	l := diff.Of(a, b)
	if len(l) != 2*n+1 || l[n].Span != sp(n, n+1) {
		t.Fatalf("Of tells %d changes", len(l))
	}
	if got, e := diff.Apply(a, l...); e != api.OK || !same(got, b) {
		t.Errorf("there: %d pieces, %d", len(got), e)
	}
	if got, e := diff.Apply(b, diff.Back(l...)...); e != api.OK || !same(got, a) {
		t.Errorf("back: %d pieces, %d", len(got), e)
	}
	// All in one piece, and one piece of all.
	always := pieces(pc(-1<<40, 1<<40, "a1"))
	if got, e := diff.Apply(always, diff.Of(always, a)...); e != api.OK || !same(got, a) {
		t.Errorf("into one piece: %d pieces, %d", len(got), e)
	}
	if got, e := diff.Apply(a, diff.Of(a, always)...); e != api.OK || !same(got, always) {
		t.Errorf("to one piece: %d pieces, %d", len(got), e)
	}
	// The last one alone is wrong.
	l[len(l)-1].Had = !l[len(l)-1].Had
	if got, e := diff.Apply(a, l...); e != api.ErrState || len(got) != 0 {
		t.Errorf("a wrong one: %d pieces, %d", len(got), e)
	}
}
