package version_test

import (
	"fmt"
	"math/rand"
	"slices"
	"strings"
	"testing"

	"erratum/api"
	"erratum/field"
	"erratum/pack"
	"erratum/sketch"
	"erratum/version"
)

// laid are versions, and their bytes: the chapter's example ahead.
var laid = []struct {
	v     api.Version
	bytes string
}{
	{gone(1, 2, "e"), "01 02 01 65 01"},
	{gone(127, 128, "\x00\xff"), "7f 8080 02 00ff 01"},
	{gone(1<<40-2, 1<<40-1, "e"), "f8fffffffffe f8ffffffffff 01 65 01"},
	{gone(1, 1<<40-1, mostBytes), "01 f8ffffffffff 18 6b6b6b6b6b6b6b6b 6b6b6b6b6b6b6b6b 6b6b6b6b6b6b6b6b 01"},
	{vs(1, 1, "e", sp(0, 1)), "01 01 01 65 00 00 01 00"},
	{vs(1, 2, "e", sp(0, 9), fl("a", 1)), "01 02 01 65 00 00 09 01 01 61 02"},
	{vs(2, 3, "ab", sp(-1, 1)), "02 03 02 6162 00 01 02 00"},
	{vs(2, 3, "ab", sp(-9, -5)), "02 03 02 6162 00 11 04 00"},
	{vs(2, 3, "ab", sp(5, 9)), "02 03 02 6162 00 0a 04 00"},
	{vs(128, 300, "\xff", sp(1<<40-1, 1<<40), fl("a", -1), fl("b", 64)), "8080 812c 01 ff 00 f9fffffffffe 01 02 01 61 01 01 62 8080"},
	{vs(1, 1, "\x00", sp(-1<<40, -1<<40+1)), "01 01 01 00 00 f9ffffffffff 01 00"},
	{vs(1<<40-1, 1<<40-1, mostBytes, ever), "f8ffffffffff f8ffffffffff 18 6b6b6b6b6b6b6b6b 6b6b6b6b6b6b6b6b 6b6b6b6b6b6b6b6b 00 f9ffffffffff fa0000000000 00"},
	{vs(1, 1, "e", day, fl("a", -1<<61), fl("abcdefghijkl", 1<<61-1)), "01 01 01 65 00 00 09 02 01 61 ff3fffffffffffffff 0c 6162636465666768696a6b6c ff3ffffffffffffffe"},
	{vs(1, 1, "e", day, eight...), "01 01 01 65 00 00 09 08 01 61 02 01 62 04 01 63 06 01 64 08 01 65 0a 01 66 0c 01 67 0e 01 68 10"},
}

// untils are where rows end whose stamp is 1, and the bytes of that.
var untils = []struct {
	until int
	bytes string
}{
	{1 << 62, "00"},
	{2, "02"},
	{127, "7f"},
	{128, "8080"},
	{1<<40 - 1, "f8ffffffffff"},
}

// behinds are texts that stand behind what is taken.
var behinds = []string{"", "\x00", "\x01", "x", "\xff", "\x80", "\x01\x02\x01e\x01", strings.Repeat("\xff", 40)}

// faultOfTake tells whether a version is taken of bytes as it should be, whatever stands behind them.
func faultOfTake(s string, want api.Version) error {
	for _, behind := range behinds {
		v, rest, e := version.Take(s + behind)
		if !same(v, want) || rest != behind || e != api.OK {
			return fmt.Errorf("Take(%x %x) = %#v, %x, %d, not %#v", s, behind, v, rest, e, want)
		}
	}
	return nil
}

// faultOfTakeRow tells the same of a row.
func faultOfTakeRow(s string, want api.Row) error {
	for _, behind := range behinds {
		r, rest, e := version.TakeRow(s + behind)
		if !same(r.Version, want.Version) || r.Until != want.Until || rest != behind || e != api.OK {
			return fmt.Errorf("TakeRow(%x %x) = %#v, %x, %d, not %#v", s, behind, r, rest, e, want)
		}
	}
	return nil
}

func TestPutAndTake(t *testing.T) {
	for _, c := range laid {
		want := raw(c.bytes)
		if s, e := version.Put(c.v); s != want || e != api.OK {
			t.Errorf("Put(%#v) = %x, %d, not %x", c.v, s, e, want)
		}
		if fault := faultOfTake(want, c.v); fault != nil {
			t.Error(fault)
		}
		if s, e := version.PutRow(row(c.v, 1<<62)); s != want+"\x00" || e != api.OK {
			t.Errorf("PutRow(%#v) = %x, %d, not %x 00", c.v, s, e, want)
		}
		if fault := faultOfTakeRow(want+"\x00", row(c.v, 1<<62)); fault != nil {
			t.Error(fault)
		}
	}
	if s, e := version.Put(api.Version{ID: 1, Stamp: 2, Entity: "e", Fields: []api.Field{}, Gone: true}); s != raw(laid[0].bytes) || e != api.OK {
		t.Errorf("Put of a list that is empty, and not nil, = %x, %d", s, e)
	}
}

func TestPutAndTakeRow(t *testing.T) {
	v := vs(1, 1, "e", sp(-3, 9), fl("a", 7))
	const front = "01 01 01 65 00 05 0c 01 01 61 0e"
	for _, c := range untils {
		want := raw(front + c.bytes)
		if s, e := version.PutRow(row(v, c.until)); s != want || e != api.OK {
			t.Errorf("PutRow(%#v until %d) = %x, %d, not %x", v, c.until, s, e, want)
		}
		if fault := faultOfTakeRow(want, row(v, c.until)); fault != nil {
			t.Error(fault)
		}
	}
	// The row of one that is gone may end, too.
	v = gone(1, 2, "e")
	want := raw("01 02 01 65 01 03")
	if s, e := version.PutRow(row(v, 3)); s != want || e != api.OK {
		t.Errorf("PutRow(%#v until 3) = %x, %d, not %x", v, s, e, want)
	}
	if fault := faultOfTakeRow(want, row(v, 3)); fault != nil {
		t.Error(fault)
	}
}

// TestPutAndTakeMany puts right versions and rows of any numbers, and takes them again, one behind the other.
func TestPutAndTakeMany(t *testing.T) {
	r := rand.New(rand.NewSource(92))
	for range 5000 {
		v, w := someRight(r), someRightRow(r)
		s, e := version.Put(v)
		if e != api.OK {
			t.Fatalf("Put(%#v) = %x, %d", v, s, e)
		}
		if fault := faultOfTake(s, v); fault != nil {
			t.Fatal(fault)
		}
		more, e := version.PutRow(w)
		if e != api.OK {
			t.Fatalf("PutRow(%#v) = %x, %d", w, more, e)
		}
		_, rest, _ := version.Take(s + more)
		if fault := faultOfTakeRow(rest, w); fault != nil {
			t.Fatal(fault)
		}
	}
}

// TestPutOfAny holds what is put, or refused, of any versions and rows against the words of the chapter.
func TestPutOfAny(t *testing.T) {
	r := rand.New(rand.NewSource(93))
	for range 100_000 {
		w := row(someVersion(r), pick(r, someUntils))
		s, e := version.Put(w.Version)
		if e != slowRight(w.Version) || (s == "") != (e != api.OK) {
			t.Fatalf("Put(%#v) = %x, %d, not %d", w.Version, s, e, slowRight(w.Version))
		}
		more, e := version.PutRow(w)
		if e != slowRightRow(w) || (more == "") != (e != api.OK) || !strings.HasPrefix(more, s) && more != "" {
			t.Fatalf("PutRow(%#v) = %x, %d, not %d", w, more, e, slowRightRow(w))
		}
	}
}

func TestTakeOfWrongOnes(t *testing.T) {
	for _, c := range []struct {
		bytes string
		want  api.Errno
	}{
		{"", api.ErrEnd},
		// The reader's errors, place by place.
		{"80", api.ErrEnd},
		{"8001 02 0165 01", api.ErrForm},
		{"ff4000000000000000 02 0165 01", api.ErrForm},
		{"01", api.ErrEnd},
		{"01 ff", api.ErrEnd},
		{"01 8002 0165 01", api.ErrForm},
		{"01 02", api.ErrEnd},
		{"01 02 80", api.ErrEnd},
		{"01 02 8001 65 01", api.ErrForm},
		{"01 02 02 65", api.ErrEnd},
		{"01 02 18 6b6b6b6b6b6b6b6b", api.ErrEnd},
		{"01 02 01 65", api.ErrEnd},
		{"01 02 0165 80", api.ErrEnd},
		{"01 02 0165 8000", api.ErrForm},
		{"01 02 0165 8001", api.ErrForm},
		{"01 02 0165 00", api.ErrEnd},
		{"01 02 0165 00 80", api.ErrEnd},
		{"01 02 0165 00 8001 01 00", api.ErrForm},
		{"01 02 0165 00 ff4000000000000000 01 00", api.ErrForm},
		{"01 02 0165 00 00", api.ErrEnd},
		{"01 02 0165 00 00 80", api.ErrEnd},
		{"01 02 0165 00 00 8001 00", api.ErrForm},
		{"01 02 0165 00 00 09", api.ErrEnd},
		{"01 02 0165 00 00 09 80", api.ErrEnd},
		{"01 02 0165 00 00 09 8001", api.ErrForm},
		{"01 02 0165 00 00 09 09", api.ErrBig},
		{"01 02 0165 00 00 09 01", api.ErrEnd},
		{"01 02 0165 00 00 09 01 0161", api.ErrEnd},
		{"01 02 0165 00 00 09 01 0141 02", api.ErrForm},
		{"01 02 0165 00 00 09 01 0d", api.ErrBig},
		{"01 02 0165 00 00 09 01 0161 8001", api.ErrForm},
		{"01 02 0165 00 00 09 02 016202 016104", api.ErrForm},
		{"01 02 0165 00 00 09 02 016102 016102", api.ErrForm},
		// An entity of too many bytes, whether they are there or not.
		{"01 02 19", api.ErrBig},
		{"01 02 19 6b6b6b6b6b6b6b6b 6b6b6b6b6b6b6b6b 6b6b6b6b6b6b6b6b 6b 01", api.ErrBig},
		{"01 02 8080", api.ErrBig},
		{"01 02 ff3fffffffffffffff", api.ErrBig},
		{"01 02 ff4000000000000000", api.ErrForm},
		// Neither 0 nor 1 tells whether it is gone, whatever is behind that.
		{"01 02 0165 02", api.ErrForm},
		{"01 02 0165 02 00 09 00", api.ErrForm},
		{"01 02 0165 7f", api.ErrForm},
		{"01 02 0165 8080", api.ErrForm},
		{"01 02 0165 8100", api.ErrForm},
		{"01 02 0165 02 80", api.ErrForm},
		{"01 02 0165 02 00 09 09", api.ErrForm},
		// All is read, but it may not be.
		{"00 02 0165 01", api.ErrForm},
		{"03 02 0165 01", api.ErrForm},
		{"02 02 0165 01", api.ErrForm},
		{"00 00 0165 01", api.ErrForm},
		{"01 00 0165 01", api.ErrForm},
		{"01 02 00 01", api.ErrForm},
		{"01 f90000000000 0165 01", api.ErrForm},
		{"01 ff3fffffffffffffff 0165 01", api.ErrForm},
		{"ff3fffffffffffffff ff3fffffffffffffff 0165 01", api.ErrForm},
		{"00 01 0165 00 00 09 00", api.ErrForm},
		{"02 01 0165 00 00 09 00", api.ErrForm},
		{"01 01 00 00 00 09 00", api.ErrForm},
		{"f90000000000 f90000000000 0165 00 00 09 00", api.ErrForm},
		{"01 01 0165 00 00 00 00", api.ErrForm},
		{"01 01 0165 00 00 00 01 016102", api.ErrForm},
		{"01 01 0165 00 fa0000000001 01 00", api.ErrForm},
		{"01 01 0165 00 fa0000000000 01 00", api.ErrForm},
		{"01 01 0165 00 f9fffffffffe 02 00", api.ErrForm},
		{"01 01 0165 00 f9ffffffffff fa0000000001 00", api.ErrForm},
		{"01 01 0165 00 ff3fffffffffffffff ff3fffffffffffffff 00", api.ErrForm},
		{"01 01 0165 00 ff3ffffffffffffffe ff3fffffffffffffff 00", api.ErrForm},
		// What is wrong further left is told of, and what can't be read ahead of what may not be.
		{"8001 8001 19", api.ErrForm},
		{"01 02 19 80 02", api.ErrBig},
		{"00 00 19", api.ErrBig},
		{"00 00 0165", api.ErrEnd},
		{"03 02 0165", api.ErrEnd},
		{"01 02 00", api.ErrEnd},
		{"01 02 00 00 00 09", api.ErrEnd},
		{"01 01 0165 00 00 00", api.ErrEnd},
		{"01 01 0165 00 00 00 09", api.ErrBig},
		{"00 00 0165 00 00 09 09", api.ErrBig},
		{"00 00 0165 00 00 00 01 0161", api.ErrEnd},
	} {
		if v, rest, e := version.Take(raw(c.bytes)); !same(v, api.Version{}) || rest != "" || e != c.want {
			t.Errorf("Take(%s) = %#v, %x, %d, not %d", c.bytes, v, rest, e, c.want)
		}
		if fault := faultOfBytes(raw(c.bytes)); fault != nil {
			t.Error(fault)
		}
	}
}

func TestTakeRowOfWrongOnes(t *testing.T) {
	for _, c := range []struct {
		bytes string
		want  api.Errno
	}{
		{"", api.ErrEnd},
		// A version's errors.
		{"01 02 0165", api.ErrEnd},
		{"01 02 19 00", api.ErrBig},
		{"01 02 0165 02 00", api.ErrForm},
		{"03 02 0165 01 00", api.ErrForm},
		{"01 01 0165 00 00 00 00 00", api.ErrForm},
		// Until's.
		{"01 02 0165 01", api.ErrEnd},
		{"01 02 0165 01 80", api.ErrEnd},
		{"01 02 0165 01 8003", api.ErrForm},
		{"01 02 0165 01 ff4000000000000000", api.ErrForm},
		{"01 01 0165 00 00 09 00", api.ErrEnd},
		{"01 01 0165 00 00 09 00 ff", api.ErrEnd},
		{"01 01 0165 00 00 09 00 8000", api.ErrForm},
		// All is read, but it may not be.
		{"01 02 0165 01 02", api.ErrForm},
		{"01 02 0165 01 01", api.ErrForm},
		{"01 02 0165 01 f90000000000", api.ErrForm},
		{"01 02 0165 01 ff3fffffffffffffff", api.ErrForm},
		{"01 01 0165 00 00 09 00 01", api.ErrForm},
		{"05 07 0165 00 00 09 00 07", api.ErrForm},
		{"05 07 0165 00 00 09 00 06", api.ErrForm},
		{"05 07 0165 00 00 09 00 f90000000000", api.ErrForm},
		{"01 f8ffffffffff 0165 01 f8ffffffffff", api.ErrForm},
		{"01 f8ffffffffff 0165 01 f90000000000", api.ErrForm},
		// Whether a version may be is told when the row is read.
		{"03 02 0165 01", api.ErrEnd},
		{"01 02 00 01", api.ErrEnd},
		{"01 01 0165 00 00 00 00", api.ErrEnd},
		{"01 01 0165 00 00 00 00 80", api.ErrEnd},
	} {
		if r, rest, e := version.TakeRow(raw(c.bytes)); !same(r.Version, api.Version{}) || r.Until != 0 || rest != "" || e != c.want {
			t.Errorf("TakeRow(%s) = %#v, %x, %d, not %d", c.bytes, r, rest, e, c.want)
		}
		if fault := faultOfBytes(raw(c.bytes)); fault != nil {
			t.Error(fault)
		}
	}
}

// TestTakeOfMayNotBe lays any versions and rows, also such as Put refuses: what is read of them, but may not be, is refused, too.
func TestTakeOfMayNotBe(t *testing.T) {
	num := func(n int) string {
		s, _ := pack.Num(max(0, min(n, 1<<62-1)))
		return s
	}
	r := rand.New(rand.NewSource(94))
	refused := 0
	for range 50_000 {
		v, until := someVersion(r), pick(r, someUntils)
		s := num(v.ID) + num(v.Stamp) + pack.Text(v.Entity)
		if v.Gone {
			s += num(1)
		} else {
			from, _ := pack.Int(max(-1<<61, min(v.Span.From, 1<<61-1)))
			fields, _ := field.Put(v.Fields...)
			s += num(0) + from + num(pick(r, someInts)) + fields
		}
		if fault := faultOfBytes(s + num(until)); fault != nil {
			t.Fatal(fault)
		}
		if _, _, e := version.Take(s); e == api.ErrForm {
			refused++
		}
	}
	if refused < 1000 {
		t.Errorf("only %d were refused", refused)
	}
}

// faultOfBytes holds what Take and TakeRow tell of bytes against the words of the chapter, and against its being put again.
func faultOfBytes(s string) error {
	want, wantRest, wantE := slowTake(s)
	v, rest, e := version.Take(s)
	if !same(v, want) || rest != wantRest || e != wantE {
		return fmt.Errorf("Take(%x) = %#v, %x, %d, not %#v, %x, %d", s, v, rest, e, want, wantRest, wantE)
	}
	if again, put := version.Put(v); e == api.OK && (again+rest != s || put != api.OK) {
		return fmt.Errorf("Take(%x) = %#v, %x, put again as %x, %d", s, v, rest, again, put)
	}
	wantRow, wantRest, wantE := slowTakeRow(s)
	r, rest, e := version.TakeRow(s)
	if !same(r.Version, wantRow.Version) || r.Until != wantRow.Until || rest != wantRest || e != wantE {
		return fmt.Errorf("TakeRow(%x) = %#v, %x, %d, not %#v, %x, %d", s, r, rest, e, wantRow, wantRest, wantE)
	}
	if again, put := version.PutRow(r); e == api.OK && (again+rest != s || put != api.OK) {
		return fmt.Errorf("TakeRow(%x) = %#v, %x, put again as %x, %d", s, r, rest, again, put)
	}
	return nil
}

// someLaid answers the bytes of right versions, and rows: those of the table, and others.
func someLaid(r *rand.Rand, n int) (versions, rows []string) {
	for _, c := range laid {
		versions = append(versions, raw(c.bytes))
		rows = append(rows, raw(c.bytes)+"\x00")
	}
	for _, c := range untils {
		rows = append(rows, raw("01 01 01 65 00 05 0c 01 01 61 0e"+c.bytes))
	}
	for range n {
		s, _ := version.Put(someRight(r))
		more, _ := version.PutRow(someRightRow(r))
		versions, rows = append(versions, s), append(rows, more)
	}
	return versions, rows
}

// TestTakeOfCuts: of each part of such bytes, from the front, nothing is taken.
func TestTakeOfCuts(t *testing.T) {
	versions, rows := someLaid(rand.New(rand.NewSource(95)), 500)
	for _, s := range versions {
		for n := range s {
			if v, rest, e := version.Take(s[:n]); !same(v, api.Version{}) || rest != "" || e != api.ErrEnd {
				t.Fatalf("Take(%x), of %x, = %#v, %x, %d", s[:n], s, v, rest, e)
			}
		}
	}
	for _, s := range rows {
		for n := range s {
			if r, rest, e := version.TakeRow(s[:n]); !same(r.Version, api.Version{}) || r.Until != 0 || rest != "" || e != api.ErrEnd {
				t.Fatalf("TakeRow(%x), of %x, = %#v, %x, %d", s[:n], s, r, rest, e)
			}
		}
	}
}

// TestTakeOfChanged makes each byte of such bytes each other one, and leaves bytes out, or puts more in.
func TestTakeOfChanged(t *testing.T) {
	versions, rows := someLaid(rand.New(rand.NewSource(96)), 12)
	for _, s := range slices.Concat(versions, rows) {
		for changed := range sketch.Changed(s) {
			if fault := faultOfBytes(changed); fault != nil {
				t.Fatal(fault)
			}
		}
	}
}

// TestTakeOfAllShort goes over all texts of up to eight bytes of a small alphabet.
func TestTakeOfAllShort(t *testing.T) {
	const alphabet = "\x00\x01\x02\x03a\x80"
	taken := 0
	for s := range sketch.Short(alphabet, 8) {
		if fault := faultOfBytes(s); fault != nil {
			t.Fatal(fault)
		}
		if _, _, e := version.TakeRow(s); e == api.OK {
			taken++
		}
	}
	if taken < 1000 {
		t.Errorf("only %d were taken", taken)
	}
}

// TestTakeOfAny goes over texts of any bytes, and of bytes that versions have often.
func TestTakeOfAny(t *testing.T) {
	r := rand.New(rand.NewSource(97))
	const often = "\x00\x00\x01\x01\x01\x02\x02\x03\x08\x09\x18\x19ae\x80\xf8\xff"
	for range 100_000 {
		if fault := faultOfBytes(sketch.Garbled(r.Intn, often, 24)); fault != nil {
			t.Fatal(fault)
		}
	}
}

// TestAnswersAreNew: what is written to an answer's fields, or to an argument's, is seen nowhere else.
func TestAnswersAreNew(t *testing.T) {
	v := vs(1, 2, "e", day, fl("a", 1), fl("b", 2))
	was := copied(v)
	s, _ := version.PutRow(row(v, 3))
	ask := []func() api.Version{
		func() api.Version { v, _, _ := version.Take(s); return v },
		func() api.Version { r, _, _ := version.TakeRow(s); return r.Version },
	}
	for i, answer := range ask {
		first, second := answer(), answer()
		_ = append(first.Fields[:1], fl("y", -1))
		first.Fields[0] = fl("x", -1)
		if !same(second, was) || !same(answer(), was) || !same(v, was) {
			t.Errorf("%d: %#v, %#v, %#v", i, second, answer(), v)
		}
	}
	// No call writes to its argument's fields, nor behind their end.
	wild := []api.Field{fl("b", 2), fl("a", 1), fl("A", 1<<62)}
	kept := slices.Clone(wild)
	for n := range len(wild) + 1 {
		for _, w := range []api.Version{vs(1, 2, "e", day, wild[:n]...), {ID: 1, Stamp: 2, Entity: "e", Fields: wild[:n], Gone: true}} {
			version.Right(w)
			version.Put(w)
			version.RightRow(row(w, 3))
			version.PutRow(row(w, 3))
			version.Live(row(w, 3), 2)
			version.Compare(w, w)
		}
	}
	if !slices.Equal(wild, kept) {
		t.Errorf("%#v was written to: %#v", kept, wild)
	}
}

// TestEndsEverywhere asks all calls for arguments that are long, or wrong in all their parts: none panics.
func TestEndsEverywhere(t *testing.T) {
	long := strings.Repeat("\xff", 1<<20)
	many := slices.Repeat([]api.Field{{Name: long, Value: -1 << 63}}, 10_000)
	var l []api.Version
	for _, n := range someInts {
		for _, m := range someInts {
			for _, isGone := range []bool{false, true} {
				l = append(l, api.Version{ID: n, Stamp: m, Entity: long, Span: sp(m, n), Fields: many, Gone: isGone})
				l = append(l, api.Version{ID: 1, Stamp: 2, Entity: "e", Span: sp(n, m), Fields: many, Gone: isGone})
			}
		}
	}
	for i, v := range l {
		r := row(v, someInts[i%len(someInts)])
		if version.Right(v) == api.OK || version.RightRow(r) == api.OK || version.Entity(v.Entity+long) != api.ErrBig {
			t.Errorf("the version %d is right", i)
		}
		if s, e := version.Put(v); s != "" || e == api.OK {
			t.Errorf("the version %d is put", i)
		}
		if s, e := version.PutRow(r); s != "" || e == api.OK {
			t.Errorf("the row %d is put", i)
		}
		version.Live(r, r.Until)
		if got := version.Compare(v, l[len(l)-1-i]); got != slowCompare(v, l[len(l)-1-i]) {
			t.Errorf("Compare of the version %d = %d", i, got)
		}
	}
	for _, s := range []string{long, strings.Repeat("\x00", 1<<20), strings.Repeat("\x01", 1<<20), strings.Repeat("\x80", 1<<20), "\x01\x02\x18" + long, "\x01\x02\x01e\x01" + long} {
		if fault := faultOfBytes(s); fault != nil {
			t.Errorf("%.200s", fault)
		}
	}
}
