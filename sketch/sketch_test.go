package sketch_test

import (
	"math/rand"
	"slices"
	"strings"
	"testing"

	"erratum/api"
	"erratum/sketch"
)

func TestFields(t *testing.T) {
	for written, want := range map[string][]api.Field{
		"":          nil,
		"a1":        {{Name: "a", Value: 1}},
		" b-2  a1 ": {{Name: "b", Value: -2}, {Name: "a", Value: 1}},
		"a":         {{Name: "not a field: a"}},
		"ab1 c1":    {{Name: "not a field: ab1"}, {Name: "c", Value: 1}},
	} {
		if got := sketch.Fields(written); !slices.Equal(got, want) {
			t.Errorf("Fields(%q) = %v, not %v", written, got, want)
		}
	}
}

// TestMost: what is told to be as much as there may be, and one more, is that.
func TestMost(t *testing.T) {
	if len(sketch.MostBytes) != 24 || len(sketch.TooLong) != 25 || len(sketch.Nine()) != 9 {
		t.Error(len(sketch.MostBytes), len(sketch.TooLong), len(sketch.Nine()))
	}
	if !sketch.Right(sketch.Day()) || sketch.Ever().To-sketch.Ever().From != 1<<41 || !sketch.Right(sketch.Ever()) {
		t.Error(sketch.Day(), sketch.Ever())
	}
}

func TestRaw(t *testing.T) {
	for digits, want := range map[string]string{
		"":             "",
		"00":           "\x00",
		" 0 1fF aB 7f": "\x01\xff\xab\x7f",
		"0":            "no bytes: 0",
		"01 2":         "no bytes: 012",
		"0g":           "no bytes: 0g",
		"+1 -1":        "no bytes: +1-1",
	} {
		if got := sketch.Raw(digits); got != want {
			t.Errorf("Raw(%q) = %q, not %q", digits, got, want)
		}
	}
}

func TestShort(t *testing.T) {
	if got := slices.Collect(sketch.Short("ab", 2)); !slices.Equal(got, []string{"", "a", "aa", "ab", "b", "ba", "bb"}) {
		t.Errorf("Short of two letters: %q", got)
	}
	for s := range sketch.Short("ab", 9) {
		if s == "aba" {
			break
		}
	}
}

func TestChanged(t *testing.T) {
	got := map[string]int{}
	for s := range sketch.Changed("abc") {
		got[s]++
	}
	// Each of three places: a byte less, 256 others, 256 more; of which some are the same.
	if len(got) != 3+3*255+1+3*255+1 {
		t.Errorf("Changed tells %d texts", len(got))
	}
	for _, s := range []string{"bc", "ac", "ab", "xbc", "a\xffc", "ab\x00", "xabc", "abxc", "abc"} {
		if got[s] == 0 {
			t.Errorf("Changed does not tell %q", s)
		}
	}
	for s := range sketch.Changed("abc") {
		if s == "bc" {
			break
		}
	}
}

func TestGarbled(t *testing.T) {
	r := rand.New(rand.NewSource(1))
	often, all := 0, 0
	for range 1000 {
		s := sketch.Garbled(r.Intn, "ab", 9)
		if len(s) > 8 {
			t.Fatalf("Garbled tells %d bytes", len(s))
		}
		all += len(s)
		often += strings.Count(s, "a") + strings.Count(s, "b")
	}
	if often < all/2 || often == all {
		t.Errorf("of %d bytes %d are among those that come often", all, often)
	}
}

func TestLine(t *testing.T) {
	for word, want := range map[string][]api.Piece{
		"":        nil,
		"..":      nil,
		"1":       {sketch.Piece(5, 6, "a1")},
		".11--2.": {sketch.Piece(6, 8, "a1"), sketch.Piece(8, 10, ""), sketch.Piece(10, 11, "a2")},
		"1.1":     {sketch.Piece(5, 6, "a1"), sketch.Piece(7, 8, "a1")},
	} {
		got := sketch.Line(5, word)
		if !sketch.Same(got, want) || !sketch.Timeline(got) {
			t.Errorf("Line(5, %q) = %v, not %v", word, got, want)
		}
		for i := range len(word) {
			if fields, ok := sketch.At(got, 5+i); ok == (word[i] == '.') || ok && !slices.Equal(fields, sketch.Fields(sketch.Written(word[i]))) {
				t.Errorf("Line(5, %q) has at %d %v, %t", word, 5+i, fields, ok)
			}
		}
	}
}

func TestWords(t *testing.T) {
	if got := sketch.Words("ab", 2); !slices.Equal(got, []string{"aa", "ab", "ba", "bb"}) {
		t.Errorf("Words of two letters: %q", got)
	}
}

func TestTimeline(t *testing.T) {
	for _, l := range sketch.NoTimelines() {
		if sketch.Timeline(l) {
			t.Errorf("%v is told to be a timeline", l)
		}
	}
	for _, a := range sketch.Strange() {
		if sketch.Right(a) || sketch.Has(a, a.From) {
			t.Errorf("%v is told to be right", a)
		}
	}
}

func TestUnlike(t *testing.T) {
	l := sketch.Line(5, ".11--2.")
	want := func(at int) ([]api.Field, bool) { return sketch.At(l, at) }
	times := []int{6, 8, 10, 11}
	if at, unlike := sketch.Unlike(l, times, want); unlike {
		t.Errorf("%v is told to be unlike itself at %d", l, at)
	}
	for _, word := range []string{".......", "1......", ".11--2-", ".11--3.", ".11-12.", ".111-2.", ".1.--2.", "..1--2.", ".11..2."} {
		// Whichever of the times is told, it is one at which both have something else.
		at, unlike := sketch.Unlike(sketch.Line(5, word), times, want)
		if !unlike || at < 5 || at > 11 || word[at-5] == ".11--2."[at-5] {
			t.Errorf("%s is told to be unlike at %d, %t", word, at, unlike)
		}
	}
}

func TestMade(t *testing.T) {
	v := func(stamp, from, to int, written string) api.Version {
		return sketch.Version(1, stamp, "e", sketch.Span(from, to), sketch.Fields(written)...)
	}
	l := []api.Version{v(2, 0, 6, "a2 b2"), v(1, 4, 8, "a1 c1"), sketch.Gone(1, 3, "e"), v(4, 3, 3, "a4"), v(2, 5, 6, "b5 b6"), v(5, 7, 8, "")}
	for at, want := range []struct {
		made   string
		counts bool
	}{
		{"a2 b2", true}, {"a2 b2", true}, {"a2 b2", true}, {"a2 b2", true}, {"a2 b2 c1", true}, {"a2 b6 c1", true}, {"a1 c1", true}, {"a1 c1", true}, {"", false},
	} {
		if made, counts := sketch.Made(l, at); counts != want.counts || !slices.Equal(made, sketch.Fields(want.made)) {
			t.Errorf("Made at %d: %v, %t, not %s, %t", at, made, counts, want.made, want.counts)
		}
	}
	if made, counts := sketch.Made([]api.Version{v(1, 0, 1, "")}, 0); len(made) != 0 || !counts {
		t.Errorf("Made of no fields: %v, %t", made, counts)
	}
	if made, counts := sketch.Made([]api.Version{{Gone: true, Span: sketch.Span(0, 9), Fields: sketch.Fields("a1")}}, 0); len(made) != 0 || counts {
		t.Errorf("Made of one that is gone: %v, %t", made, counts)
	}
}

func TestSameVersion(t *testing.T) {
	v := sketch.Version(1, 2, "e", sketch.Span(0, 9), sketch.Fields("a1")...)
	v.Gone = true
	others := []api.Version{v, v, v, v, v, v, v}
	others[0].ID = 2
	others[1].Stamp = 3
	others[2].Entity = "f"
	others[3].Span.To = 8
	others[4].Fields = nil
	others[5].Fields = sketch.Fields("a2")
	others[6].Gone = false
	for i, w := range others {
		if sketch.SameVersion(v, w) || sketch.SameVersions([]api.Version{v, v}, []api.Version{v, w}) {
			t.Errorf("the %d-th other version is told to be the same", i)
		}
	}
	if !sketch.SameVersions([]api.Version{v}, []api.Version{v}) || sketch.SameVersions(nil, []api.Version{v}) {
		t.Error("lists of the same version")
	}
}

func TestSameRow(t *testing.T) {
	a := sketch.Row(sketch.Gone(1, 2, "e"), 5)
	for i, b := range []api.Row{sketch.Row(sketch.Gone(1, 3, "e"), 5), sketch.Row(sketch.Gone(1, 2, "e"), 6)} {
		if sketch.SameRow(a, b) || sketch.SameRows([]api.Row{a, a}, []api.Row{a, b}) {
			t.Errorf("the %d-th other row is told to be the same", i)
		}
	}
	if !sketch.SameRows([]api.Row{a}, []api.Row{a}) || sketch.SameRows(nil, []api.Row{a}) {
		t.Error("lists of the same row")
	}
}

func TestCopyVersions(t *testing.T) {
	l := []api.Version{{Stamp: 1, Fields: sketch.Fields("a1")}, {Stamp: 2}}
	copied := sketch.CopyVersions(l)
	if !sketch.SameVersions(copied, l) {
		t.Errorf("copied to %v", copied)
	}
	copied[0].Fields[0].Value, copied[1].Stamp = 7, 7
	if l[0].Fields[0].Value != 1 || l[1].Stamp != 2 {
		t.Errorf("what is written to a copy is seen in %v", l)
	}
}

func TestSameCommand(t *testing.T) {
	c := sketch.Append("e", sketch.Span(0, 9), sketch.Fields("a1")...)
	others := []api.Command{c, c, c, c, c, c}
	others[0].Kind = api.Correct
	others[1].Entity = "f"
	others[2].Target = 1
	others[3].Span.To = 8
	others[4].Fields = nil
	others[5].Fields = sketch.Fields("a2")
	for i, d := range others {
		if sketch.SameCommand(c, d) || sketch.SameCommands([]api.Command{c, c}, []api.Command{c, d}) {
			t.Errorf("the %d-th other command is told to be the same", i)
		}
	}
	if !sketch.SameCommands([]api.Command{c, sketch.Annul(1)}, []api.Command{c, {Kind: api.Annul, Target: 1, Fields: []api.Field{}}}) || sketch.SameCommands(nil, []api.Command{c}) {
		t.Error("lists of the same commands")
	}
}

func TestCopyCommands(t *testing.T) {
	l := []api.Command{sketch.Correct(1, sketch.Span(0, 9), sketch.Fields("a1")...), sketch.Annul(2)}
	copied := sketch.CopyCommands(l)
	if !sketch.SameCommands(copied, l) {
		t.Errorf("copied to %v", copied)
	}
	copied[0].Fields[0].Value, copied[1].Target = 7, 7
	if l[0].Fields[0].Value != 1 || l[1].Target != 2 {
		t.Errorf("what is written to a copy is seen in %v", l)
	}
}
