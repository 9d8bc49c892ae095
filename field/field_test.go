package field_test

import (
	"fmt"
	"maps"
	"math"
	"math/rand"
	"slices"
	"strings"
	"testing"

	"erratum/api"
	"erratum/field"
	"erratum/pack"
	"erratum/sketch"
)

// least and most are the ends of values.
const (
	least = -1 << 61
	most  = 1<<61 - 1
)

// letters are those that a name begins with; it may have the others behind the first one, too.
const (
	letters = "abcdefghijklmnopqrstuvwxyz"
	others  = letters + "0123456789-"
)

// raw makes the writing of bytes short.
var raw = sketch.Raw

// fl makes a field's writing short, and ls that of a list of names whose values are their places, from 1 on.
func fl(name string, value int) api.Field { return api.Field{Name: name, Value: value} }

func ls(names ...string) []api.Field {
	var l []api.Field
	for i, name := range names {
		l = append(l, fl(name, i+1))
	}
	return l
}

// twelve has as many bytes as a name may have.
const twelve = "abcdefghijkl"

// names are some names, rising, the least and the greatest of all among them.
var names = []string{
	"a", "a-", "a--", "a-----------", "a-0", "a-a", "a0", "a00", "a0a", "a9", "aa", "aaaaaaaaaaaa", "ab", "abcdefghijk",
	twelve, "az", "b", "b-0-b", "b0", "m", "name", "name-1", "name-2", "name1", "z", "z-", "z9", "zz", "zzzzzzzzzzzz",
}

// noNames are texts that are no names: too short, too long, or with a byte at the front or behind it that may not be there.
var noNames = []string{
	"", "-", "0", "9", "A", "Z", "_", " ", "=", "`", "{", "\x00", "\xff", "ä",
	"-a", "0a", "9a", "Aa", "_a", " a", "`a", "{a", "\x00a", "\xe1a",
	"aA", "aZ", "a_", "a ", "a=", "a.", "a,", "a/", "a:", "a`", "a{", "a\x00", "a\n", "a\x7f", "a\x80", "a\xff", "aä", "a\xe1",
	"aAa", "a b", "abcdefghijkL", "abcdefghijk ", "abcdefghijk\x00",
	twelve + "m", twelve + "-", twelve + "\x00", strings.Repeat("a", 24), strings.Repeat("a", 1<<16),
}

// isName tells by the words of the chapter whether a text is a name.
func isName(s string) bool {
	if len(s) < 1 || len(s) > 12 || strings.Index(letters, s[:1]) < 0 {
		return false
	}
	for i := 1; i < len(s); i++ {
		if strings.Index(others, s[i:i+1]) < 0 {
			return false
		}
	}
	return true
}

// values are values, and noValues numbers that are none.
var (
	values   = []int{0, 1, -1, 2, -2, 63, -64, 64, -65, 300, -300, 1 << 40, -1 << 40, most - 1, most, least + 1, least}
	noValues = []int{most + 1, most + 2, 1<<62 - 1, 1 << 62, math.MaxInt, least - 1, least - 2, -1 << 62, math.MinInt + 1, math.MinInt}
)

// wrongAlone tells by the words of the chapter what is wrong first with a field, whatever stands beside it.
func wrongAlone(f api.Field) api.Errno {
	if !isName(f.Name) {
		return api.ErrForm
	}
	if f.Value < least || f.Value > most {
		return api.ErrArg
	}
	return api.OK
}

// slowRight tells by the words of the chapter what is wrong first with a list.
func slowRight(l []api.Field) api.Errno {
	if len(l) > 8 {
		return api.ErrBig
	}
	for i, f := range l {
		if e := wrongAlone(f); e != api.OK {
			return e
		}
		if i > 0 && f.Name <= l[i-1].Name {
			return api.ErrOrder
		}
	}
	return api.OK
}

// slowMake tells by the words of the chapter what list the fields make: each is put where its name belongs.
func slowMake(l []api.Field) ([]api.Field, api.Errno) {
	if len(l) > 8 {
		return nil, api.ErrBig
	}
	for _, f := range l {
		if e := wrongAlone(f); e != api.OK {
			return nil, e
		}
	}
	var made []api.Field
	for _, f := range l {
		at := 0
		for at < len(made) && made[at].Name < f.Name {
			at++
		}
		if at < len(made) && made[at].Name == f.Name {
			return nil, api.ErrThere
		}
		made = slices.Insert(made, at, f)
	}
	return made, api.OK
}

// slowOver tells by the words of the chapter what lists over each other have: of each name, the field that stands last.
func slowOver(l [][]api.Field) []api.Field {
	var over []api.Field
	all := slices.Concat(l...)
	for i, f := range all {
		last := !slices.ContainsFunc(all[i+1:], func(g api.Field) bool { return g.Name == f.Name })
		if last {
			over = append(over, f)
		}
	}
	slices.SortFunc(over, func(a, b api.Field) int { return strings.Compare(a.Name, b.Name) })
	return over
}

// slowTake reads a list by the words of the chapter, from the left.
func slowTake(s string) ([]api.Field, string, api.Errno) {
	var l []api.Field
	many, s, e := pack.TakeNum(s)
	if e == api.OK && many > 8 {
		e = api.ErrBig
	}
	for i := 0; i < many && e == api.OK; i++ {
		var f api.Field
		f.Name, s, e = pack.TakeText(s, 12)
		if e != api.OK {
			break
		}
		if !isName(f.Name) || i > 0 && f.Name <= l[i-1].Name {
			e = api.ErrForm
			break
		}
		f.Value, s, e = pack.TakeInt(s)
		l = append(l, f)
	}
	if e != api.OK {
		return nil, "", e
	}
	return l, s, api.OK
}

// each hands out all lists of up to n of the fields, in any order and the same ones among them.
func each(n int, fields []api.Field, told func(l []api.Field)) {
	var grow func(l []api.Field)
	grow = func(l []api.Field) {
		told(l)
		if len(l) == n {
			return
		}
		for _, f := range fields {
			grow(append(slices.Clone(l), f))
		}
	}
	grow(nil)
}

// some are fields, right and wrong, of few names, so that many lists of them have a name twice.
var some = []api.Field{
	fl("a", 1), fl("a", 2), fl("b", 1), fl("c", -5), fl("a-b", 7), fl("", 1), fl("A", 1), fl("b", most+1), fl("", least-1), fl("a\x00", 0),
}

// someList answers up to so many fields of few names; if odd ones may come, some have names that are none, or any numbers.
func someList(r *rand.Rand, long int, odd bool) []api.Field {
	var l []api.Field
	for range r.Intn(long + 1) {
		f := fl(names[r.Intn(len(names))], values[r.Intn(len(values))])
		if odd && r.Intn(3) == 0 {
			f.Name = noNames[r.Intn(len(noNames)-1)]
		}
		if odd && r.Intn(3) == 0 {
			f.Value = noValues[r.Intn(len(noValues))]
		}
		l = append(l, f)
	}
	return l
}

// someRight answers a right list of up to MaxFields fields.
func someRight(r *rand.Rand) []api.Field {
	var l []api.Field
	for _, i := range r.Perm(len(names))[:r.Intn(api.MaxFields+1)] {
		value := values[r.Intn(len(values))]
		if r.Intn(2) == 0 {
			value = r.Intn(most) >> r.Intn(61)
		}
		l = append(l, fl(names[i], value))
	}
	slices.SortFunc(l, func(a, b api.Field) int { return strings.Compare(a.Name, b.Name) })
	return l
}

func TestName(t *testing.T) {
	for _, s := range names {
		if !field.Name(s) {
			t.Errorf("Name(%q) is false", s)
		}
	}
	for _, s := range noNames {
		if field.Name(s) {
			t.Errorf("Name(%.40q), of %d bytes, is true", s, len(s))
		}
	}
	if !slices.IsSorted(names) {
		t.Error("the names don't rise")
	}
}

// TestNameByBytes goes over all bytes at the front, and at each place behind it, of names of each length.
func TestNameByBytes(t *testing.T) {
	for b := range 256 {
		one := string([]byte{byte(b)})
		for long := 1; long <= 14; long++ {
			for at := range long {
				s := strings.Repeat("k", at) + one + strings.Repeat("k", long-at-1)
				may := others
				if at == 0 {
					may = letters
				}
				want := long <= 12 && strings.Contains(may, one)
				if got := field.Name(s); got != want {
					t.Errorf("Name(%q) is %v", s, got)
				}
			}
		}
	}
	for b := range 256 {
		for c := range 256 {
			s := string([]byte{byte(b), byte(c)})
			if got := field.Name(s); got != isName(s) {
				t.Errorf("Name(%q) is %v", s, got)
			}
		}
	}
}

// lists are lists, with what Right and Make answer; of those of which Make answers OK, it answers a list of the same names, rising.
var lists = []struct {
	l           []api.Field
	right, made api.Errno
}{
	{nil, api.OK, api.OK},
	{[]api.Field{}, api.OK, api.OK},
	{ls("a"), api.OK, api.OK},
	{ls("a", "b"), api.OK, api.OK},
	{ls("a", "a-", "a0", "aa", "b"), api.OK, api.OK},
	{ls(twelve), api.OK, api.OK},
	{[]api.Field{fl("a", most)}, api.OK, api.OK},
	{[]api.Field{fl("a", least)}, api.OK, api.OK},
	{[]api.Field{fl("a", least), fl("b", 0), fl("c", most)}, api.OK, api.OK},
	{ls("a", "b", "c", "d", "e", "f", "g", "h"), api.OK, api.OK},
	// There are too many, right or not.
	{ls("a", "b", "c", "d", "e", "f", "g", "h", "i"), api.ErrBig, api.ErrBig},
	{slices.Repeat(ls("a"), 9), api.ErrBig, api.ErrBig},
	{slices.Repeat(ls(""), 9), api.ErrBig, api.ErrBig},
	{slices.Repeat([]api.Field{fl("a", most+1)}, 9), api.ErrBig, api.ErrBig},
	{make([]api.Field, 1000), api.ErrBig, api.ErrBig},
	// A name is none.
	{make([]api.Field, 1), api.ErrForm, api.ErrForm},
	{make([]api.Field, 8), api.ErrForm, api.ErrForm},
	{ls(""), api.ErrForm, api.ErrForm},
	{ls("A"), api.ErrForm, api.ErrForm},
	{ls("a", "b", "C"), api.ErrForm, api.ErrForm},
	{ls(twelve + "m"), api.ErrForm, api.ErrForm},
	{ls("a", "b", "c", "d", "e", "f", "g", "-"), api.ErrForm, api.ErrForm},
	// A value is none.
	{[]api.Field{fl("a", most+1)}, api.ErrArg, api.ErrArg},
	{[]api.Field{fl("a", least-1)}, api.ErrArg, api.ErrArg},
	{[]api.Field{fl("a", 0), fl("b", math.MaxInt)}, api.ErrArg, api.ErrArg},
	{[]api.Field{fl("a", 0), fl("b", math.MinInt), fl("c", 0)}, api.ErrArg, api.ErrArg},
	// Names don't rise.
	{ls("b", "a"), api.ErrOrder, api.OK},
	{ls("c", "b", "a"), api.ErrOrder, api.OK},
	{ls("a", "c", "b"), api.ErrOrder, api.OK},
	{ls("aa", "a"), api.ErrOrder, api.OK},
	{ls("a0", "a-"), api.ErrOrder, api.OK},
	{ls("aa", "a0"), api.ErrOrder, api.OK},
	{ls("b", "abc"), api.ErrOrder, api.OK},
	{ls("h", "g", "f", "e", "d", "c", "b", "a"), api.ErrOrder, api.OK},
	{ls("a", "b", "c", "d", "e", "f", "h", "g"), api.ErrOrder, api.OK},
	// A name stands twice.
	{ls("a", "a"), api.ErrOrder, api.ErrThere},
	{[]api.Field{fl("a", 1), fl("a", 1)}, api.ErrOrder, api.ErrThere},
	{ls("a", "b", "b"), api.ErrOrder, api.ErrThere},
	{ls("a", "b", "a"), api.ErrOrder, api.ErrThere},
	{ls("b", "a", "b"), api.ErrOrder, api.ErrThere},
	{ls("h", "b", "c", "d", "e", "f", "g", "h"), api.ErrOrder, api.ErrThere},
	// Of one field the name is told of first.
	{[]api.Field{fl("", most+1)}, api.ErrForm, api.ErrForm},
	{[]api.Field{fl("a", 1), fl("A", least-1)}, api.ErrForm, api.ErrForm},
	{[]api.Field{fl("b", 1), fl("a", most+1)}, api.ErrArg, api.ErrArg},
	{[]api.Field{fl("a", 1), fl("a", most+1)}, api.ErrArg, api.ErrArg},
	{[]api.Field{fl("b", 1), fl("A", 1)}, api.ErrForm, api.ErrForm},
	// Of several fields the first one is.
	{[]api.Field{fl("a", most+1), fl("A", 1)}, api.ErrArg, api.ErrArg},
	{[]api.Field{fl("A", 1), fl("b", most+1)}, api.ErrForm, api.ErrForm},
	{[]api.Field{fl("a", 1), fl("b", most+1), fl("", 1)}, api.ErrArg, api.ErrArg},
	// What stands out of order is told of by Right when it comes, by Make last of all.
	{[]api.Field{fl("b", 1), fl("a", 1), fl("A", 1)}, api.ErrOrder, api.ErrForm},
	{[]api.Field{fl("b", 1), fl("a", 1), fl("c", most+1)}, api.ErrOrder, api.ErrArg},
	{[]api.Field{fl("a", 1), fl("a", 1), fl("A", 1)}, api.ErrOrder, api.ErrForm},
	{[]api.Field{fl("a", 1), fl("a", 1), fl("c", least-1), fl("", 1)}, api.ErrOrder, api.ErrArg},
	{[]api.Field{fl("a", 1), fl("b", most+1), fl("a", 1)}, api.ErrArg, api.ErrArg},
	{[]api.Field{fl("a", 1), fl("", 1), fl("a", 1)}, api.ErrForm, api.ErrForm},
}

func TestRightAndMake(t *testing.T) {
	for _, c := range lists {
		if e := field.Right(c.l...); e != c.right {
			t.Errorf("Right(%.80v) = %d, not %d", c.l, e, c.right)
		}
		got, e := field.Make(c.l...)
		if e != c.made {
			t.Errorf("Make(%.80v) = %v, %d, not %d", c.l, got, e, c.made)
		}
		want, _ := slowMake(c.l)
		if !slices.Equal(got, want) {
			t.Errorf("Make(%.80v) = %v, not %v", c.l, got, want)
		}
	}
	for _, v := range noValues {
		for _, l := range [][]api.Field{{fl("a", v)}, {fl("a", 0), fl("b", v)}} {
			if e := field.Right(l...); e != api.ErrArg {
				t.Errorf("Right(%v) = %d", l, e)
			}
			if got, e := field.Make(l...); len(got) != 0 || e != api.ErrArg {
				t.Errorf("Make(%v) = %v, %d", l, got, e)
			}
		}
	}
	for _, s := range noNames {
		if e := field.Right(fl("a", 1), fl(s, 2)); e != api.ErrForm {
			t.Errorf("Right of the name %.40q = %d", s, e)
		}
		if got, e := field.Make(fl(s, 2), fl("a", 1)); len(got) != 0 || e != api.ErrForm {
			t.Errorf("Make of the name %.40q = %v, %d", s, got, e)
		}
	}
}

// faultOfList holds Right, Make and Put of a list against the words of the chapter.
func faultOfList(l []api.Field) error {
	was := slices.Clone(l)
	right := slowRight(l)
	if e := field.Right(l...); e != right {
		return fmt.Errorf("Right(%v) = %d, not %d", l, e, right)
	}
	made, e := slowMake(l)
	if got, gotE := field.Make(l...); !slices.Equal(got, made) || gotE != e {
		return fmt.Errorf("Make(%v) = %v, %d, not %v, %d", l, got, gotE, made, e)
	}
	if s, e := field.Put(l...); e != right || e != api.OK && s != "" {
		return fmt.Errorf("Put(%v) = %x, %d, not %d", l, s, e, right)
	}
	if !slices.Equal(l, was) {
		return fmt.Errorf("%v was written to: %v", was, l)
	}
	return nil
}

// TestListsOfFew goes over all lists of up to four of the few fields, and over many longer ones.
func TestListsOfFew(t *testing.T) {
	each(4, some, func(l []api.Field) {
		if fault := faultOfList(l); fault != nil {
			t.Fatal(fault)
		}
	})
	r := rand.New(rand.NewSource(71))
	for range 20_000 {
		for _, l := range [][]api.Field{someList(r, 10, false), someList(r, 10, true), someRight(r)} {
			if fault := faultOfList(l); fault != nil {
				t.Fatal(fault)
			}
		}
	}
}

// TestMakeOfRightOnes: a right list, however it is shuffled, is made the same; what is made is right.
func TestMakeOfRightOnes(t *testing.T) {
	r := rand.New(rand.NewSource(72))
	for range 5000 {
		l := someRight(r)
		mixed := slices.Clone(l)
		r.Shuffle(len(mixed), func(i, k int) { mixed[i], mixed[k] = mixed[k], mixed[i] })
		got, e := field.Make(mixed...)
		if !slices.Equal(got, l) || e != api.OK || field.Right(got...) != api.OK {
			t.Fatalf("Make(%v) = %v, %d", mixed, got, e)
		}
	}
}

func TestGet(t *testing.T) {
	odd := []api.Field{fl("b", 1), fl("", 2), fl("a", 3), fl("b", 4), fl("B", math.MinInt), fl("\x00", 6), fl("", 7), fl("zero", 0), fl("zero", 1)}
	for _, c := range []struct {
		l    []api.Field
		name string
		want int
		ok   bool
	}{
		{nil, "a", 0, false},
		{nil, "", 0, false},
		{[]api.Field{}, "a", 0, false},
		{ls("a", "b", "c"), "a", 1, true},
		{ls("a", "b", "c"), "b", 2, true},
		{ls("a", "b", "c"), "c", 3, true},
		{ls("a", "b", "c"), "d", 0, false},
		{ls("a", "b", "c"), "", 0, false},
		{ls("a", "b", "c"), "ab", 0, false},
		{ls("ab"), "a", 0, false},
		{ls("a"), "A", 0, false},
		{ls("a", "a", "a"), "a", 1, true},
		{odd, "b", 1, true},
		{odd, "", 2, true},
		{odd, "a", 3, true},
		{odd, "B", math.MinInt, true},
		{odd, "\x00", 6, true},
		{odd, "zero", 0, true},
		{odd, "\x00\x00", 0, false},
		{odd, "c", 0, false},
		{make([]api.Field, 3), "", 0, true},
	} {
		if got, ok := field.Get(c.l, c.name); got != c.want || ok != c.ok {
			t.Errorf("Get(%v, %q) = %d, %v", c.l, c.name, got, ok)
		}
	}
	each(4, some, func(l []api.Field) {
		for _, name := range []string{"a", "b", "", "A", "a-b", "x"} {
			i := slices.IndexFunc(l, func(f api.Field) bool { return f.Name == name })
			got, ok := field.Get(l, name)
			if ok != (i >= 0) || ok && got != l[i].Value || !ok && got != 0 {
				t.Fatalf("Get(%v, %q) = %d, %v", l, name, got, ok)
			}
		}
	})
}

func TestOver(t *testing.T) {
	for _, c := range []struct {
		l    [][]api.Field
		want []api.Field
	}{
		{nil, nil},
		{[][]api.Field{}, nil},
		{[][]api.Field{nil}, nil},
		{[][]api.Field{{}, nil, {}}, nil},
		{[][]api.Field{ls("a", "b")}, ls("a", "b")},
		{[][]api.Field{{fl("a", 1), fl("b", 2)}, {fl("b", 3), fl("c", 4)}}, []api.Field{fl("a", 1), fl("b", 3), fl("c", 4)}},
		{[][]api.Field{{fl("b", 3), fl("c", 4)}, {fl("a", 1), fl("b", 2)}}, []api.Field{fl("a", 1), fl("b", 2), fl("c", 4)}},
		{[][]api.Field{nil, ls("a"), nil, {fl("b", 2)}, {}}, ls("a", "b")},
		{[][]api.Field{{fl("a", 1)}, {fl("a", 2)}, {fl("a", 3)}}, []api.Field{fl("a", 3)}},
		{[][]api.Field{{fl("a", 3)}, {fl("a", 0)}}, []api.Field{fl("a", 0)}},
		// Names that don't rise, that stand twice, and that are none.
		{[][]api.Field{ls("b", "a")}, []api.Field{fl("a", 2), fl("b", 1)}},
		{[][]api.Field{ls("a", "a", "b", "a")}, []api.Field{fl("a", 4), fl("b", 3)}},
		{[][]api.Field{ls("a", "a"), {fl("b", 1)}}, []api.Field{fl("a", 2), fl("b", 1)}},
		{[][]api.Field{{fl("a", 5)}, ls("a", "b", "a")}, []api.Field{fl("a", 3), fl("b", 2)}},
		{[][]api.Field{ls("a", "b", "a"), {fl("a", 5)}}, []api.Field{fl("a", 5), fl("b", 2)}},
		{[][]api.Field{ls("", "A", "\xff"), {fl("", 9)}}, []api.Field{fl("", 9), fl("A", 2), fl("\xff", 3)}},
		{[][]api.Field{{fl("a", math.MaxInt)}, {fl("b", math.MinInt)}}, []api.Field{fl("a", math.MaxInt), fl("b", math.MinInt)}},
		// Names rise byte by byte.
		{[][]api.Field{ls("b", "ä", "aa", "a", "a0", "a-", "B", "a\x00")}, []api.Field{
			fl("B", 7), fl("a", 4), fl("a\x00", 8), fl("a-", 6), fl("a0", 5), fl("aa", 3), fl("b", 1), fl("ä", 2),
		}},
	} {
		if got := field.Over(c.l...); !slices.Equal(got, c.want) {
			t.Errorf("Over(%v) = %v, not %v", c.l, got, c.want)
		}
	}
}

// TestOverOfMany holds Over of many lists, right or not, against the words of the chapter, and against maps.
func TestOverOfMany(t *testing.T) {
	r := rand.New(rand.NewSource(73))
	for range 20_000 {
		var l [][]api.Field
		for range r.Intn(6) {
			l = append(l, someList(r, 12, r.Intn(2) == 0))
		}
		got := field.Over(l...)
		if !slices.Equal(got, slowOver(l)) {
			t.Fatalf("Over(%v) = %v, not %v", l, got, slowOver(l))
		}
		last := map[string]int{}
		for _, f := range slices.Concat(l...) {
			last[f.Name] = f.Value
		}
		told := map[string]int{}
		for _, f := range got {
			told[f.Name] = f.Value
		}
		if !maps.Equal(told, last) || len(got) != len(last) {
			t.Fatalf("Over(%v) = %v, not %v", l, got, last)
		}
	}
	var wide []api.Field // More fields than a right list has.
	for i := range 5000 {
		wide = append(wide, fl(fmt.Sprintf("n%04d", i), i))
	}
	backwards := slices.Clone(wide)
	slices.Reverse(backwards)
	if got := field.Over(backwards[:3000], backwards[2000:]); !slices.Equal(got, wide) {
		t.Errorf("Over of %d fields has %d", len(wide), len(got))
	}
}

func TestSame(t *testing.T) {
	for _, c := range []struct {
		a, b []api.Field
		want bool
	}{
		{nil, nil, true},
		{nil, []api.Field{}, true},
		{[]api.Field{}, []api.Field{}, true},
		{nil, ls("a"), false},
		{nil, make([]api.Field, 1), false},
		{make([]api.Field, 1), make([]api.Field, 1), true},
		{make([]api.Field, 1), make([]api.Field, 2), false},
		{ls("a"), ls("a"), true},
		{ls("a"), ls("b"), false},
		{ls("a"), ls("A"), false},
		{ls("a"), []api.Field{fl("a", 2)}, false},
		{[]api.Field{fl("a", 1)}, []api.Field{fl("a", -1)}, false},
		{[]api.Field{fl("a", math.MinInt)}, []api.Field{fl("a", math.MinInt)}, true},
		{[]api.Field{fl("a", math.MinInt)}, []api.Field{fl("a", math.MaxInt)}, false},
		{ls("a", "b"), ls("a", "b"), true},
		{ls("a", "b"), ls("a"), false},
		{ls("a", "b"), ls("a", "c"), false},
		{ls("a", "b", "c"), ls("a", "x", "c"), false},
		// The same fields, but not in the same order, or not as often.
		{[]api.Field{fl("a", 1), fl("b", 2)}, []api.Field{fl("b", 2), fl("a", 1)}, false},
		{[]api.Field{fl("b", 2), fl("a", 1)}, []api.Field{fl("b", 2), fl("a", 1)}, true},
		{[]api.Field{fl("a", 1), fl("a", 1)}, []api.Field{fl("a", 1)}, false},
		{[]api.Field{fl("a", 1), fl("a", 2)}, []api.Field{fl("a", 2)}, false},
		{ls("", "", ""), ls("", "", ""), true},
	} {
		if got := field.Same(c.a, c.b); got != c.want {
			t.Errorf("Same(%v, %v) is %v", c.a, c.b, got)
		}
		if got := field.Same(c.b, c.a); got != c.want {
			t.Errorf("Same(%v, %v) is %v", c.b, c.a, got)
		}
	}
	var all [][]api.Field
	each(2, some, func(l []api.Field) { all = append(all, l) })
	for i, a := range all { // No two of them are the same.
		for k, b := range all {
			if got := field.Same(a, slices.Clone(b)); got != (i == k) {
				t.Fatalf("Same(%v, %v) is %v", a, b, got)
			}
		}
	}
}

// laid are right lists with their bytes.
var laid = []struct {
	l     []api.Field
	bytes string
}{
	{nil, "00"},
	{[]api.Field{}, "00"},
	{[]api.Field{fl("a", 1)}, "01 01 61 02"},
	{[]api.Field{fl("a", 0)}, "01 01 61 00"},
	{[]api.Field{fl("a", -1)}, "01 01 61 01"},
	{[]api.Field{fl("z", 63)}, "01 01 7a 7e"},
	{[]api.Field{fl("z", 64)}, "01 01 7a 8080"},
	{[]api.Field{fl("a", -65)}, "01 01 61 8081"},
	{[]api.Field{fl("a", most)}, "01 01 61 ff3ffffffffffffffe"},
	{[]api.Field{fl("a", least)}, "01 01 61 ff3fffffffffffffff"},
	{[]api.Field{fl("a-0", 5)}, "01 03 612d30 0a"},
	{[]api.Field{fl(twelve, -2)}, "01 0c 6162636465666768696a6b6c 03"},
	{[]api.Field{fl("a", 1), fl("b", 3), fl("c", 4)}, "03 01 61 02 01 62 06 01 63 08"},
	{[]api.Field{fl("a", 300), fl("ab", -300)}, "02 01 61 8258 02 6162 8257"},
	{ls("a", "b", "c", "d", "e", "f", "g", "h"), "08 016102 016204 016306 016408 01650a 01660c 01670e 016810"},
}

// behinds are texts that may stand behind what is taken.
var behinds = []string{"", "x", "\x00", "\x01\x01z\x02", "\x01", "\x0c", "\x80", "\xff", strings.Repeat("\xff", 20)}

func TestPutAndTake(t *testing.T) {
	for _, c := range laid {
		if s, e := field.Put(c.l...); s != raw(c.bytes) || e != api.OK {
			t.Errorf("Put(%v) = %x, %d, not %s", c.l, s, e, c.bytes)
		}
		for _, behind := range behinds {
			if l, rest, e := field.Take(raw(c.bytes) + behind); !slices.Equal(l, c.l) || rest != behind || e != api.OK {
				t.Errorf("Take(%s %x) = %v, %x, %d", c.bytes, behind, l, rest, e)
			}
		}
	}
}

// TestPutOfWrongOnes: the errors are those of Right, and come alone.
func TestPutOfWrongOnes(t *testing.T) {
	for _, c := range lists {
		s, e := field.Put(c.l...)
		if e != c.right || (s == "") != (e != api.OK) {
			t.Errorf("Put(%.80v) = %x, %d, not %d", c.l, s, e, c.right)
		}
	}
}

// TestThereAndBack lays many right lists, and takes them, whatever is behind them.
func TestThereAndBack(t *testing.T) {
	r := rand.New(rand.NewSource(74))
	for range 20_000 {
		l := someRight(r)
		s, e := field.Put(l...)
		if e != api.OK {
			t.Fatalf("Put(%v) = %x, %d", l, s, e)
		}
		behind := behinds[r.Intn(len(behinds))]
		if got, rest, e := field.Take(s + behind); !slices.Equal(got, l) || rest != behind || e != api.OK {
			t.Fatalf("Take(%x %x) = %v, %x, %d, not %v", s, behind, got, rest, e, l)
		}
		// Two lists, one behind the other.
		m := someRight(r)
		more, _ := field.Put(m...)
		_, rest, _ := field.Take(s + more)
		if got, rest, e := field.Take(rest); !slices.Equal(got, m) || rest != "" || e != api.OK {
			t.Fatalf("Take(%x) behind %x = %v, %x, %d, not %v", more, s, got, rest, e, m)
		}
	}
}

func TestTakeOfWrongOnes(t *testing.T) {
	for _, c := range []struct {
		bytes string
		want  api.Errno
	}{
		{"", api.ErrEnd},
		// How many there are.
		{"80", api.ErrEnd},
		{"8001 016102", api.ErrForm},
		{"8008 016102", api.ErrForm},
		{"ff4000000000000000", api.ErrForm},
		{"09", api.ErrBig},
		{"09 016102 016204 016306 016408 01650a 01660c 01670e 016810 016912", api.ErrBig},
		{"7f", api.ErrBig},
		{"8080", api.ErrBig},
		{"ff3fffffffffffffff", api.ErrBig},
		{"01", api.ErrEnd},
		{"08", api.ErrEnd},
		{"02 016102", api.ErrEnd},
		{"08 016102 016204 016306 016408 01650a 01660c 01670e", api.ErrEnd},
		// A name's length.
		{"01 80", api.ErrEnd},
		{"01 8001 61 02", api.ErrForm},
		{"01 0d", api.ErrBig},
		{"01 0d 6162636465666768696a6b6c6d 02", api.ErrBig},
		{"01 0d 41", api.ErrBig},
		{"01 ff3fffffffffffffff", api.ErrBig},
		{"01 ff4000000000000000", api.ErrForm},
		{"01 0c 6162636465666768696a6b", api.ErrEnd},
		{"01 02 41", api.ErrEnd},
		// A name is none, whatever is behind it.
		{"01 00", api.ErrForm},
		{"01 00 02", api.ErrForm},
		{"01 01 41 02", api.ErrForm},
		{"01 01 41", api.ErrForm},
		{"01 01 41 80", api.ErrForm},
		{"01 02 6141 02", api.ErrForm},
		{"01 02 3061 02", api.ErrForm},
		{"01 02 2d61 02", api.ErrForm},
		{"01 02 6100 02", api.ErrForm},
		{"01 02 c3a4 02", api.ErrForm},
		{"01 0c 6162636465666768696a6b5f 02", api.ErrForm},
		{"02 016102 014104", api.ErrForm},
		// Names don't rise, whatever is behind them.
		{"02 016202 016104", api.ErrForm},
		{"02 016102 016104", api.ErrForm},
		{"02 016102 016102", api.ErrForm},
		{"02 016102 0161", api.ErrForm},
		{"02 016102 016180", api.ErrForm},
		{"02 02616102 016104", api.ErrForm},
		{"02 02613002 02612d04", api.ErrForm},
		{"03 016102 016304 016206", api.ErrForm},
		{"03 016102 016304 0163", api.ErrForm},
		{"03 016202 016304 016106", api.ErrForm},
		// A value.
		{"01 0161", api.ErrEnd},
		{"01 0161 80", api.ErrEnd},
		{"01 0161 8001", api.ErrForm},
		{"01 0161 ff4000000000000000", api.ErrForm},
		{"01 0161 ff3fffffffffffff", api.ErrEnd},
		// What is wrong first is told of, however wrong what follows is.
		{"02 0161 8001 0141", api.ErrForm},
		{"02 0161 02 0d", api.ErrBig},
		{"02 0141 02 0d", api.ErrForm},
		{"02 0d 0141", api.ErrBig},
		{"02 0162 02 0161 02 0d", api.ErrForm},
		{"02 0161 02 0162", api.ErrEnd},
	} {
		if l, rest, e := field.Take(raw(c.bytes)); len(l) != 0 || rest != "" || e != c.want {
			t.Errorf("Take(%s) = %v, %x, %d, not %d", c.bytes, l, rest, e, c.want)
		}
	}
	for _, s := range noNames {
		want := api.ErrForm
		if len(s) > api.MaxName {
			want = api.ErrBig
		}
		if l, rest, e := field.Take("\x01" + pack.Text(s) + "\x02"); len(l) != 0 || rest != "" || e != want {
			t.Errorf("Take of the name %.40q = %v, %x, %d, not %d", s, l, rest, e, want)
		}
	}
}

// faultOfBytes holds what is taken of bytes against the words of the chapter, and against its being put again.
func faultOfBytes(s string) error {
	want, wantRest, wantE := slowTake(s)
	l, rest, e := field.Take(s)
	if !slices.Equal(l, want) || rest != wantRest || e != wantE {
		return fmt.Errorf("Take(%x) = %v, %x, %d, not %v, %x, %d", s, l, rest, e, want, wantRest, wantE)
	}
	if e != api.OK {
		return nil
	}
	if e := field.Right(l...); e != api.OK {
		return fmt.Errorf("Take(%x) = %v, of which Right tells %d", s, l, e)
	}
	if again, e := field.Put(l...); again+rest != s || e != api.OK {
		return fmt.Errorf("Take(%x) = %v, %x, put again as %x, %d", s, l, rest, again, e)
	}
	return nil
}

// someLaid answers the bytes of right lists: those of the table, and others.
func someLaid(r *rand.Rand, n int) []string {
	var all []string
	for _, c := range laid {
		all = append(all, raw(c.bytes))
	}
	for range n {
		s, _ := field.Put(someRight(r)...)
		all = append(all, s)
	}
	return all
}

// TestTakeOfCuts: of each part of a list's bytes, from the front, nothing is taken.
func TestTakeOfCuts(t *testing.T) {
	for _, s := range someLaid(rand.New(rand.NewSource(75)), 500) {
		for n := range s {
			if l, rest, e := field.Take(s[:n]); len(l) != 0 || rest != "" || e != api.ErrEnd {
				t.Errorf("Take(%x), of %x, = %v, %x, %d", s[:n], s, l, rest, e)
			}
		}
	}
}

// TestTakeOfChanged makes each byte of lists' bytes each other one, and leaves bytes out, or puts more in.
func TestTakeOfChanged(t *testing.T) {
	for _, s := range someLaid(rand.New(rand.NewSource(76)), 60) {
		for changed := range sketch.Changed(s) {
			if fault := faultOfBytes(changed); fault != nil {
				t.Fatal(fault)
			}
		}
	}
}

// TestTakeOfAllShort goes over all texts of up to seven bytes of a small alphabet.
func TestTakeOfAllShort(t *testing.T) {
	const alphabet = "\x00\x01\x02\x0dabA"
	taken := 0
	for s := range sketch.Short(alphabet, 7) {
		if fault := faultOfBytes(s); fault != nil {
			t.Fatal(fault)
		}
		if _, _, e := field.Take(s); e == api.OK {
			taken++
		}
	}
	if taken < 1000 {
		t.Errorf("only %d were taken", taken)
	}
}

// TestTakeOfAny goes over texts of any bytes, and of bytes that lists have often.
func TestTakeOfAny(t *testing.T) {
	r := rand.New(rand.NewSource(77))
	const often = "\x00\x01\x01\x01\x02\x02\x03\x08\x09\x0c\x0dabcz-09\x80\xff"
	for range 100_000 {
		if fault := faultOfBytes(sketch.Garbled(r.Intn, often, 20)); fault != nil {
			t.Fatal(fault)
		}
	}
}

// faultOfThree lays three lists over each other at once, the first two first, and the last two first.
func faultOfThree(a, b, c []api.Field) error {
	once := field.Over(a, b, c)
	first := field.Over(field.Over(a, b), c)
	last := field.Over(a, field.Over(b, c))
	if !slices.Equal(first, last) || !slices.Equal(first, once) {
		return fmt.Errorf("%v, %v, %v: %v, %v, %v", a, b, c, once, first, last)
	}
	return nil
}

// TestOverTwoByTwo: it is the same in which order lists are put over each other, as long as they stand in one order.
func TestOverTwoByTwo(t *testing.T) {
	var all [][]api.Field
	each(2, []api.Field{fl("a", 1), fl("a", 2), fl("b", 1), fl("b", 2), fl("", 1)}, func(l []api.Field) { all = append(all, l) })
	for _, a := range all {
		for _, b := range all {
			for _, c := range all {
				if fault := faultOfThree(a, b, c); fault != nil {
					t.Fatal(fault)
				}
			}
		}
	}
	r := rand.New(rand.NewSource(78))
	for range 10_000 {
		if fault := faultOfThree(someRight(r), someRight(r), someRight(r)); fault != nil {
			t.Fatal(fault)
		}
		if fault := faultOfThree(someList(r, 9, true), someList(r, 9, true), someList(r, 9, true)); fault != nil {
			t.Fatal(fault)
		}
	}
	// What they stand in counts: the other way round it is another list.
	a, b := []api.Field{fl("a", 1)}, []api.Field{fl("a", 2)}
	if field.Same(field.Over(a, b), field.Over(b, a)) {
		t.Error("which list is over the other one does not count")
	}
}

// TestAnswersAreNew: what is written to an answer, or to an argument, is seen nowhere else.
func TestAnswersAreNew(t *testing.T) {
	right := ls("a", "b", "c")
	was := slices.Clone(right)
	s, _ := field.Put(right...)
	ask := []func() []api.Field{
		func() []api.Field { l, _ := field.Make(right...); return l },
		func() []api.Field { return field.Over(right) },
		func() []api.Field { return field.Over(nil, right, nil) },
		func() []api.Field { l, _, _ := field.Take(s); return l },
	}
	for i, answer := range ask {
		first, second := answer(), answer()
		for k := range first {
			first[k] = fl("x", -1)
		}
		_ = append(first[:1], ls("y", "y", "y")...)
		if !slices.Equal(right, was) || !slices.Equal(second, was) || !slices.Equal(answer(), was) {
			t.Errorf("%d: %v, %v, %v", i, right, second, answer())
		}
		third := answer()
		right[0].Value = 99
		if !slices.Equal(third, was) {
			t.Errorf("%d: %v", i, third)
		}
		right[0].Value = was[0].Value
	}
	// Room behind a list is its caller's, too.
	roomy := append(make([]api.Field, 0, 8), fl("b", 1), fl("a", 2), fl("z", 3), fl("z", 4))
	kept := slices.Clone(roomy)
	for _, l := range [][]api.Field{roomy, roomy[:2], roomy[:3]} {
		field.Make(l...)
		field.Over(l, roomy)
		field.Right(l...)
		field.Put(l...)
		field.Get(l, "z")
		field.Same(l, roomy)
	}
	if !slices.Equal(roomy, kept) {
		t.Errorf("%v was written to: %v", kept, roomy)
	}
}

// TestSameAnswerAgain: what is answered hangs on no order but that of the arguments, and on nothing that was asked ahead.
func TestSameAnswerAgain(t *testing.T) {
	r := rand.New(rand.NewSource(79))
	a, b := someList(r, 40, true), someList(r, 40, true)
	over := field.Over(a, b)
	for range 200 {
		if got := field.Over(a, b); !slices.Equal(got, over) {
			t.Fatalf("Over = %v, and %v", over, got)
		}
	}
}

// TestEndsEverywhere asks all calls for arguments that are long, or wrong in all their parts: none panics.
func TestEndsEverywhere(t *testing.T) {
	long := strings.Repeat("a", 1<<20)
	wild := []api.Field{{}, fl(long, math.MinInt), fl("\xff", math.MaxInt), fl("", math.MinInt)}
	for _, l := range [][]api.Field{nil, {}, make([]api.Field, 1), wild, slices.Repeat(wild, 10_000)} {
		if made, e := field.Make(l...); e != api.OK && len(made) != 0 {
			t.Errorf("Make = %d fields, %d", len(made), e)
		}
		if s, e := field.Put(l...); e != api.OK && s != "" {
			t.Errorf("Put = %d bytes, %d", len(s), e)
		}
		if e := field.Right(l...); (e == api.OK) != (len(l) == 0) {
			t.Errorf("Right of %d fields = %d", len(l), e)
		}
		if v, ok := field.Get(l, "none"); v != 0 || ok {
			t.Errorf("Get = %d, %v", v, ok)
		}
		if got := field.Over(l, l, nil); len(got) > 3 {
			t.Errorf("Over = %d fields", len(got))
		}
		if !field.Same(l, slices.Clone(l)) {
			t.Errorf("Same of %d fields is false", len(l))
		}
	}
	for _, s := range []string{long, "\x08" + long, "\x08\x0c" + long, strings.Repeat("\xff", 1<<20), strings.Repeat("\x00", 1<<20), strings.Repeat("\x01", 1<<20)} {
		if fault := faultOfBytes(s); fault != nil {
			t.Errorf("%.200s", fault)
		}
	}
	if field.Name(long) {
		t.Error("Name of 2^20 bytes is true")
	}
}
