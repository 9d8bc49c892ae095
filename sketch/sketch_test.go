package sketch_test

import (
	"math/rand"
	"slices"
	"strings"
	"testing"

	"erratum/api"
	"erratum/sketch"
)

func TestFields(t *testing.T) {
	for written, want := range map[string][]api.Field{
		"":          nil,
		"a1":        {{Name: "a", Value: 1}},
		" b-2  a1 ": {{Name: "b", Value: -2}, {Name: "a", Value: 1}},
		"a":         {{Name: "not a field: a"}},
		"ab1 c1":    {{Name: "not a field: ab1"}, {Name: "c", Value: 1}},
	} {
		if got := sketch.Fields(written); !slices.Equal(got, want) {
			t.Errorf("Fields(%q) = %v, not %v", written, got, want)
		}
	}
}

func TestRaw(t *testing.T) {
	for digits, want := range map[string]string{
		"":             "",
		"00":           "\x00",
		" 0 1fF aB 7f": "\x01\xff\xab\x7f",
		"0":            "no bytes: 0",
		"01 2":         "no bytes: 012",
		"0g":           "no bytes: 0g",
		"+1 -1":        "no bytes: +1-1",
	} {
		if got := sketch.Raw(digits); got != want {
			t.Errorf("Raw(%q) = %q, not %q", digits, got, want)
		}
	}
}

func TestShort(t *testing.T) {
	if got := slices.Collect(sketch.Short("ab", 2)); !slices.Equal(got, []string{"", "a", "aa", "ab", "b", "ba", "bb"}) {
		t.Errorf("Short of two letters: %q", got)
	}
	for s := range sketch.Short("ab", 9) {
		if s == "aba" {
			break
		}
	}
}

func TestChanged(t *testing.T) {
	got := map[string]int{}
	for s := range sketch.Changed("abc") {
		got[s]++
	}
	// Each of three places: a byte less, 256 others, 256 more; of which some are the same.
	if len(got) != 3+3*255+1+3*255+1 {
		t.Errorf("Changed tells %d texts", len(got))
	}
	for _, s := range []string{"bc", "ac", "ab", "xbc", "a\xffc", "ab\x00", "xabc", "abxc", "abc"} {
		if got[s] == 0 {
			t.Errorf("Changed does not tell %q", s)
		}
	}
	for s := range sketch.Changed("abc") {
		if s == "bc" {
			break
		}
	}
}

func TestGarbled(t *testing.T) {
	r := rand.New(rand.NewSource(1))
	often, all := 0, 0
	for range 1000 {
		s := sketch.Garbled(r.Intn, "ab", 9)
		if len(s) > 8 {
			t.Fatalf("Garbled tells %d bytes", len(s))
		}
		all += len(s)
		often += strings.Count(s, "a") + strings.Count(s, "b")
	}
	if often < all/2 || often == all {
		t.Errorf("of %d bytes %d are among those that come often", all, often)
	}
}

func TestLine(t *testing.T) {
	for word, want := range map[string][]api.Piece{
		"":        nil,
		"..":      nil,
		"1":       {sketch.Piece(5, 6, "a1")},
		".11--2.": {sketch.Piece(6, 8, "a1"), sketch.Piece(8, 10, ""), sketch.Piece(10, 11, "a2")},
		"1.1":     {sketch.Piece(5, 6, "a1"), sketch.Piece(7, 8, "a1")},
	} {
		got := sketch.Line(5, word)
		if !sketch.Same(got, want) || !sketch.Timeline(got) {
			t.Errorf("Line(5, %q) = %v, not %v", word, got, want)
		}
		for i := range len(word) {
			if fields, ok := sketch.At(got, 5+i); ok == (word[i] == '.') || ok && !slices.Equal(fields, sketch.Fields(sketch.Written(word[i]))) {
				t.Errorf("Line(5, %q) has at %d %v, %t", word, 5+i, fields, ok)
			}
		}
	}
}

func TestWords(t *testing.T) {
	if got := sketch.Words("ab", 2); !slices.Equal(got, []string{"aa", "ab", "ba", "bb"}) {
		t.Errorf("Words of two letters: %q", got)
	}
}

func TestTimeline(t *testing.T) {
	for _, l := range sketch.NoTimelines() {
		if sketch.Timeline(l) {
			t.Errorf("%v is told to be a timeline", l)
		}
	}
	for _, a := range sketch.Strange() {
		if sketch.Right(a) || sketch.Has(a, a.From) {
			t.Errorf("%v is told to be right", a)
		}
	}
}

func TestSameVersion(t *testing.T) {
	v := sketch.Version(1, 2, "e", sketch.Span(0, 9), sketch.Fields("a1")...)
	v.Gone = true
	others := []api.Version{v, v, v, v, v, v, v}
	others[0].ID = 2
	others[1].Stamp = 3
	others[2].Entity = "f"
	others[3].Span.To = 8
	others[4].Fields = nil
	others[5].Fields = sketch.Fields("a2")
	others[6].Gone = false
	for i, w := range others {
		if sketch.SameVersion(v, w) || sketch.SameVersions([]api.Version{v, v}, []api.Version{v, w}) {
			t.Errorf("the %d-th other version is told to be the same", i)
		}
	}
	if !sketch.SameVersions([]api.Version{v}, []api.Version{v}) || sketch.SameVersions(nil, []api.Version{v}) {
		t.Error("lists of the same version")
	}
}

func TestCopyVersions(t *testing.T) {
	l := []api.Version{{Stamp: 1, Fields: sketch.Fields("a1")}, {Stamp: 2}}
	copied := sketch.CopyVersions(l)
	if !sketch.SameVersions(copied, l) {
		t.Errorf("copied to %v", copied)
	}
	copied[0].Fields[0].Value, copied[1].Stamp = 7, 7
	if l[0].Fields[0].Value != 1 || l[1].Stamp != 2 {
		t.Errorf("what is written to a copy is seen in %v", l)
	}
}

func TestSameCommand(t *testing.T) {
	c := sketch.Append("e", sketch.Span(0, 9), sketch.Fields("a1")...)
	others := []api.Command{c, c, c, c, c, c}
	others[0].Kind = api.Correct
	others[1].Entity = "f"
	others[2].Target = 1
	others[3].Span.To = 8
	others[4].Fields = nil
	others[5].Fields = sketch.Fields("a2")
	for i, d := range others {
		if sketch.SameCommand(c, d) || sketch.SameCommands([]api.Command{c, c}, []api.Command{c, d}) {
			t.Errorf("the %d-th other command is told to be the same", i)
		}
	}
	if !sketch.SameCommands([]api.Command{c, sketch.Annul(1)}, []api.Command{c, {Kind: api.Annul, Target: 1, Fields: []api.Field{}}}) || sketch.SameCommands(nil, []api.Command{c}) {
		t.Error("lists of the same commands")
	}
}

func TestCopyCommands(t *testing.T) {
	l := []api.Command{sketch.Correct(1, sketch.Span(0, 9), sketch.Fields("a1")...), sketch.Annul(2)}
	copied := sketch.CopyCommands(l)
	if !sketch.SameCommands(copied, l) {
		t.Errorf("copied to %v", copied)
	}
	copied[0].Fields[0].Value, copied[1].Target = 7, 7
	if l[0].Fields[0].Value != 1 || l[1].Target != 2 {
		t.Errorf("what is written to a copy is seen in %v", l)
	}
}
