package sketch_test

import (
	"slices"
	"testing"

	"erratum/api"
	"erratum/sketch"
)

func TestFields(t *testing.T) {
	for written, want := range map[string][]api.Field{
		"":          nil,
		"a1":        {{Name: "a", Value: 1}},
		" b-2  a1 ": {{Name: "b", Value: -2}, {Name: "a", Value: 1}},
		"a":         {{Name: "not a field: a"}},
		"ab1 c1":    {{Name: "not a field: ab1"}, {Name: "c", Value: 1}},
	} {
		if got := sketch.Fields(written); !slices.Equal(got, want) {
			t.Errorf("Fields(%q) = %v, not %v", written, got, want)
		}
	}
}

func TestLine(t *testing.T) {
	for word, want := range map[string][]api.Piece{
		"":        nil,
		"..":      nil,
		"1":       {sketch.Piece(5, 6, "a1")},
		".11--2.": {sketch.Piece(6, 8, "a1"), sketch.Piece(8, 10, ""), sketch.Piece(10, 11, "a2")},
		"1.1":     {sketch.Piece(5, 6, "a1"), sketch.Piece(7, 8, "a1")},
	} {
		got := sketch.Line(5, word)
		if !sketch.Same(got, want) || !sketch.Timeline(got) {
			t.Errorf("Line(5, %q) = %v, not %v", word, got, want)
		}
		for i := range len(word) {
			if fields, ok := sketch.At(got, 5+i); ok == (word[i] == '.') || ok && !slices.Equal(fields, sketch.Fields(sketch.Written(word[i]))) {
				t.Errorf("Line(5, %q) has at %d %v, %t", word, 5+i, fields, ok)
			}
		}
	}
}

func TestWords(t *testing.T) {
	if got := sketch.Words("ab", 2); !slices.Equal(got, []string{"aa", "ab", "ba", "bb"}) {
		t.Errorf("Words of two letters: %q", got)
	}
}

func TestTimeline(t *testing.T) {
	for _, l := range sketch.NoTimelines() {
		if sketch.Timeline(l) {
			t.Errorf("%v is told to be a timeline", l)
		}
	}
	for _, a := range sketch.Strange() {
		if sketch.Right(a) || sketch.Has(a, a.From) {
			t.Errorf("%v is told to be right", a)
		}
	}
}

func TestSameVersion(t *testing.T) {
	v := api.Version{ID: 1, Stamp: 2, Entity: "e", Span: sketch.Span(0, 9), Fields: sketch.Fields("a1"), Gone: true}
	others := []api.Version{v, v, v, v, v, v, v}
	others[0].ID = 2
	others[1].Stamp = 3
	others[2].Entity = "f"
	others[3].Span.To = 8
	others[4].Fields = nil
	others[5].Fields = sketch.Fields("a2")
	others[6].Gone = false
	for i, w := range others {
		if sketch.SameVersion(v, w) || sketch.SameVersions([]api.Version{v, v}, []api.Version{v, w}) {
			t.Errorf("the %d-th other version is told to be the same", i)
		}
	}
	if !sketch.SameVersions([]api.Version{v}, []api.Version{v}) || sketch.SameVersions(nil, []api.Version{v}) {
		t.Error("lists of the same version")
	}
}

func TestCopyVersions(t *testing.T) {
	l := []api.Version{{Stamp: 1, Fields: sketch.Fields("a1")}, {Stamp: 2}}
	copied := sketch.CopyVersions(l)
	if !sketch.SameVersions(copied, l) {
		t.Errorf("copied to %v", copied)
	}
	copied[0].Fields[0].Value, copied[1].Stamp = 7, 7
	if l[0].Fields[0].Value != 1 || l[1].Stamp != 2 {
		t.Errorf("what is written to a copy is seen in %v", l)
	}
}
