// Package sketch is for tests alone: it makes the writing of bytes, spans, fields, timelines, versions and commands short, and holds them against each other;
// it goes over texts that bytes are read of; and it tells what spans, timelines and the fields of a time are slowly, by the plain words of chapters 1, 8 and 11,
// so that what is quicker can be held against it.
package sketch

import (
	"iter"
	"slices"
	"strconv"
	"strings"

	"erratum/api"
)

// Entities of as many bytes as one may have, and of one more.
const (
	MostBytes = "kkkkkkkkkkkkkkkkkkkkkkkk"
	TooLong   = MostBytes + "k"
)

// Raw reads bytes: two digits to the base 16 each, spaces between them as one likes.
func Raw(digits string) string {
	digits = strings.ReplaceAll(digits, " ", "")
	// Bytes that no test can mean, so that a slip of the pen does not go unseen.
	wrong := "no bytes: " + digits
	if len(digits)%2 == 1 {
		return wrong
	}
	var raw []byte
	for i := 0; i < len(digits); i += 2 {
		b, err := strconv.ParseUint(digits[i:i+2], 16, 8)
		if err != nil {
			return wrong
		}
		raw = append(raw, byte(b))
	}
	return string(raw)
}

// Short goes over all texts of at most so many of the letters, over each ahead of those that begin with it.
func Short(letters string, most int) iter.Seq[string] {
	return func(yield func(s string) bool) { longer("", letters, most, yield) }
}

// longer goes over a text, and over all that begin with it; false: nobody asks for more.
func longer(s, letters string, most int, yield func(s string) bool) bool {
	if !yield(s) {
		return false
	}
	if len(s) == most {
		return true
	}
	for i := range len(letters) {
		if !longer(s+letters[i:i+1], letters, most, yield) {
			return false
		}
	}
	return true
}

// Changed goes over the texts that one becomes, when one of its bytes is left out, or is made each one, or each one is laid ahead of it.
func Changed(s string) iter.Seq[string] {
	return func(yield func(s string) bool) {
		for i := range len(s) {
			if !yield(s[:i] + s[i+1:]) {
				return
			}
			for b := range 256 {
				one := string([]byte{byte(b)})
				if !yield(s[:i]+one+s[i+1:]) || !yield(s[:i]+one+s[i:]) {
					return
				}
			}
		}
	}
}

// Garbled answers a text of fewer than so many bytes, of which most are some that come often; intn tells numbers below a number by chance.
func Garbled(intn func(n int) int, often string, most int) string {
	b := make([]byte, intn(most))
	for i := range b {
		if b[i] = byte(intn(256)); intn(5) > 0 {
			b[i] = often[intn(len(often))]
		}
	}
	return string(b)
}

// Span answers the span of both ends, right or not.
func Span(from, to int) api.Span { return api.Span{From: from, To: to} }

// Day answers a right span, and Ever the longest one.
func Day() api.Span { return Span(0, 9) }

func Ever() api.Span { return Span(-1<<40, 1<<40) }

// Field answers the field of a name and a value, right or not.
func Field(name string, value int) api.Field { return api.Field{Name: name, Value: value} }

// Fields reads a list of fields: "a1 b-2" are a name of one byte and its value each.
func Fields(written string) []api.Field {
	var l []api.Field
	for _, word := range strings.Fields(written) {
		value, err := strconv.Atoi(word[1:])
		if err != nil {
			// A name that no test can mean, so that a slip of the pen does not go unseen.
			l = append(l, Field("not a field: "+word, 0))
			continue
		}
		l = append(l, Field(word[:1], value))
	}
	return l
}

// Nine answers more fields than there may be; the first eight of them are as many.
func Nine() []api.Field { return Fields("a1 b2 c3 d4 e5 f6 g7 h8 i9") }

// Piece answers the piece over a span of the fields that are written.
func Piece(from, to int, written string) api.Piece {
	return api.Piece{Span: Span(from, to), Fields: Fields(written)}
}

// Written answers what is written for a letter of a line: "" for "-", "a1" for "1", and so on; "." is nothing, and stays so.
func Written(letter byte) string {
	switch letter {
	case '.':
		return "."
	case '-':
		return ""
	}
	return "a" + string(rune(letter))
}

// Line reads a timeline, a letter a time from one on.
func Line(from int, word string) []api.Piece {
	var l []api.Piece
	for i := range len(word) {
		switch {
		case word[i] == '.':
		case i > 0 && word[i-1] == word[i]:
			l[len(l)-1].Span.To++
		default:
			l = append(l, Piece(from+i, from+i+1, Written(word[i])))
		}
	}
	return l
}

// Words answers all words of so many of the letters.
func Words(letters string, long int) []string {
	if long == 0 {
		return []string{""}
	}
	var l []string
	for _, ahead := range Words(letters, long-1) {
		for i := range len(letters) {
			l = append(l, ahead+letters[i:i+1])
		}
	}
	return l
}

// Around answers times at which lines of so many letters may begin, so that they reach both ends of time, and 0.
func Around(long int) []int {
	return []int{api.MinTime, api.MinTime + 1, -2, api.MaxTime - long - 1, api.MaxTime - long}
}

// Right: is the span right?
func Right(a api.Span) bool { return a.From >= -1<<40 && a.To <= 1<<40 && a.From < a.To }

// Has: does the span, if it is right, have the time?
func Has(a api.Span, t int) bool { return Right(a) && a.From <= t && t < a.To }

// Timeline: is the list a timeline?
func Timeline(l []api.Piece) bool {
	for i, p := range l {
		if !Right(p.Span) {
			return false
		}
		if i == 0 {
			continue
		}
		q := l[i-1]
		if q.Span.To > p.Span.From || q.Span.To == p.Span.From && slices.Equal(q.Fields, p.Fields) {
			return false
		}
	}
	return true
}

// At answers the fields of the first piece that has the time, and whether there is one.
func At(l []api.Piece, t int) ([]api.Field, bool) {
	for _, p := range l {
		if Has(p.Span, t) {
			return slices.Clone(p.Fields), true
		}
	}
	return nil, false
}

// Unlike answers a time at which the pieces have something else than they should, if there is one; what they should have changes at none but the times.
func Unlike(l []api.Piece, times []int, want func(t int) ([]api.Field, bool)) (int, bool) {
	// Between two of all these times both stay the same.
	asked := slices.Clone(times)
	for _, p := range l {
		asked = append(asked, p.Span.From, p.Span.To)
	}
	for _, border := range asked {
		for _, t := range []int{border - 1, border} {
			wanted, there := want(t)
			if fields, ok := At(l, t); ok != there || !slices.Equal(fields, wanted) {
				return t, true
			}
		}
	}
	return 0, false
}

// Made answers what versions make of a time: of each name what the one says last whose Stamp is the greatest of those that count; and whether one of them does.
func Made(l []api.Version, t int) ([]api.Field, bool) {
	type set struct{ stamp, value int }
	sets := map[string]set{}
	counts := false
	for _, v := range l {
		if v.Gone || !Has(v.Span, t) {
			continue
		}
		counts = true
		for _, f := range v.Fields {
			if before, there := sets[f.Name]; !there || before.stamp <= v.Stamp {
				sets[f.Name] = set{v.Stamp, f.Value}
			}
		}
	}
	var made []api.Field
	for name, last := range sets {
		made = append(made, Field(name, last.value))
	}
	slices.SortFunc(made, func(f, g api.Field) int { return strings.Compare(f.Name, g.Name) })
	return made, counts
}

// SamePiece: are both pieces the same?
func SamePiece(p, q api.Piece) bool { return p.Span == q.Span && slices.Equal(p.Fields, q.Fields) }

// Same: are both lists the same, piece by piece?
func Same(a, b []api.Piece) bool { return slices.EqualFunc(a, b, SamePiece) }

// Copy answers the same pieces, which share nothing with the list.
func Copy(l []api.Piece) []api.Piece {
	copied := slices.Clone(l)
	for i := range copied {
		copied[i].Fields = slices.Clone(copied[i].Fields)
	}
	return copied
}

// Version answers the version that stands, right or not, of an ID and a Stamp.
func Version(id, stamp int, entity string, a api.Span, l ...api.Field) api.Version {
	return api.Version{ID: id, Stamp: stamp, Entity: entity, Span: a, Fields: l}
}

// Gone answers the version, right or not, of an event that is gone.
func Gone(id, stamp int, entity string) api.Version {
	return api.Version{ID: id, Stamp: stamp, Entity: entity, Gone: true}
}

// Row answers the row of a version and of where it ends, right or not.
func Row(v api.Version, until int) api.Row { return api.Row{Version: v, Until: until} }

// SameVersion: are both versions the same? A list that is empty and one that is nil are.
func SameVersion(a, b api.Version) bool {
	return a.ID == b.ID && a.Stamp == b.Stamp && a.Entity == b.Entity && a.Span == b.Span && a.Gone == b.Gone && slices.Equal(a.Fields, b.Fields)
}

// SameVersions: are both lists the same, version by version?
func SameVersions(a, b []api.Version) bool { return slices.EqualFunc(a, b, SameVersion) }

// SameRow: are both rows the same?
func SameRow(a, b api.Row) bool { return SameVersion(a.Version, b.Version) && a.Until == b.Until }

// SameRows: are both lists the same, row by row?
func SameRows(a, b []api.Row) bool { return slices.EqualFunc(a, b, SameRow) }

// CopyVersions answers the same versions, which share nothing with the list.
func CopyVersions(l []api.Version) []api.Version {
	copied := slices.Clone(l)
	for i := range copied {
		copied[i].Fields = slices.Clone(copied[i].Fields)
	}
	return copied
}

// Append answers the command that appends an event, right or not.
func Append(entity string, a api.Span, l ...api.Field) api.Command {
	return api.Command{Kind: api.Append, Entity: entity, Span: a, Fields: l}
}

// Correct answers the command that corrects an event, right or not.
func Correct(target int, a api.Span, l ...api.Field) api.Command {
	return api.Command{Kind: api.Correct, Target: target, Span: a, Fields: l}
}

// Annul answers the command that annuls an event, right or not.
func Annul(target int) api.Command { return api.Command{Kind: api.Annul, Target: target} }

// SameCommand: are both commands the same? A list that is empty and one that is nil are.
func SameCommand(a, b api.Command) bool {
	return a.Kind == b.Kind && a.Entity == b.Entity && a.Target == b.Target && a.Span == b.Span && slices.Equal(a.Fields, b.Fields)
}

// SameCommands: are both lists the same, command by command?
func SameCommands(a, b []api.Command) bool { return slices.EqualFunc(a, b, SameCommand) }

// CopyCommands answers the same commands, which share nothing with the list.
func CopyCommands(l []api.Command) []api.Command {
	copied := slices.Clone(l)
	for i := range copied {
		copied[i].Fields = slices.Clone(copied[i].Fields)
	}
	return copied
}

// Strange answers spans that are not right.
func Strange() []api.Span {
	const least, most = -1 << 63, 1<<63 - 1
	return []api.Span{
		{}, Span(3, 3), Span(9, 0),
		Span(-1<<40-1, 5), Span(0, 1<<40+1), Span(1<<40, 1<<40), Span(-1<<40, -1<<40),
		Span(least, most), Span(most, least), Span(0, most), Span(least, 0),
	}
}

// Ends answers times at and beyond the ends of all that may be, and some around 0.
func Ends() []int {
	const least, most = -1 << 63, 1<<63 - 1
	return []int{least, -1 << 62, -1<<40 - 1, -1 << 40, -1<<40 + 1, -1, 0, 1, 2, 3, 1<<40 - 1, 1 << 40, 1<<40 + 1, 1 << 62, most}
}

// NoTimelines answers lists that are no timelines, each for another cause.
func NoTimelines() [][]api.Piece {
	return [][]api.Piece{
		{Piece(0, 9, "a1"), Piece(13, 13, "a2")},
		{Piece(3, 3, "a1"), Piece(4, 9, "a1")},
		{Piece(0, 9, "a1"), Piece(12, 1<<40+1, "a2")},
		{Piece(-1<<40-1, 9, "a1")},
		{Piece(0, 4, "a1"), Piece(3, 9, "a2")},
		{Piece(5, 9, "a1"), Piece(0, 4, "a2")},
		{Piece(0, 4, "a1"), Piece(4, 9, "a1")},
		{Piece(0, 4, ""), Piece(4, 9, "")},
		{Piece(0, 4, "a1"), Piece(0, 4, "a1")},
		{Piece(0, 2, "a1"), Piece(2, 4, "a2"), Piece(20, 30, "a2"), Piece(30, 40, "a2")},
	}
}
