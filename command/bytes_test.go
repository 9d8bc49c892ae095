package command_test

import (
	"fmt"
	"math"
	"math/rand"
	"slices"
	"strings"
	"testing"

	"erratum/api"
	"erratum/command"
	"erratum/field"
	"erratum/pack"
	"erratum/sketch"
)

// laid are commands, and their bytes: the chapter's example ahead.
var laid = []struct {
	c     api.Command
	bytes string
}{
	{annul(5), "03 0a"},
	{annul(1), "03 02"},
	{annul(-1), "03 01"},
	{annul(-8), "03 0f"},
	{annul(63), "03 7e"},
	{annul(64), "03 8080"},
	{annul(1<<40 - 1), "03 f9fffffffffe"},
	{appends("e", sp(0, 1)), "01 01 65 00 01 00"},
	{appends("e", day, fs("a1")...), "01 01 65 00 09 01 01 61 02"},
	{appends("ab", sp(-1, 1)), "01 02 6162 01 02 00"},
	{appends("\x00\xff", sp(-9, -5)), "01 02 00ff 11 04 00"},
	{appends("e", sp(5, 9)), "01 01 65 0a 04 00"},
	{appends("e", sp(1<<40-1, 1<<40), fl("a", -1), fl("b", 64)), "01 01 65 f9fffffffffe 01 02 01 61 01 01 62 8080"},
	{appends("e", sp(-1<<40, -1<<40+1)), "01 01 65 f9ffffffffff 01 00"},
	{appends(mostBytes, ever), "01 18 6b6b6b6b6b6b6b6b 6b6b6b6b6b6b6b6b 6b6b6b6b6b6b6b6b f9ffffffffff fa0000000000 00"},
	{appends("e", day, eight...), "01 01 65 00 09 08 01 61 02 01 62 04 01 63 06 01 64 08 01 65 0a 01 66 0c 01 67 0e 01 68 10"},
	{correct(5, sp(0, 1)), "02 0a 00 01 00"},
	{correct(-1, day, fs("a1")...), "02 01 00 09 01 01 61 02"},
	{correct(-8, sp(-9, -5)), "02 0f 11 04 00"},
	{correct(1<<40-1, ever), "02 f9fffffffffe f9ffffffffff fa0000000000 00"},
	{correct(1, day, fl("a", -1<<61), fl("abcdefghijkl", 1<<61-1)), "02 02 00 09 02 01 61 ff3fffffffffffffff 0c 6162636465666768696a6b6c ff3ffffffffffffffe"},
}

// behinds are texts that stand behind what is taken.
var behinds = []string{"", "\x00", "\x01", "x", "\xff", "\x80", "\x03\x0a", strings.Repeat("\xff", 40)}

// faultOfTake tells whether a command is taken of bytes as it should be, whatever stands behind them.
func faultOfTake(s string, want api.Command) error {
	for _, behind := range behinds {
		c, rest, e := command.Take(s + behind)
		if !same(c, want) || rest != behind || e != api.OK {
			return fmt.Errorf("Take(%x %x) = %#v, %x, %d, not %#v", s, behind, c, rest, e, want)
		}
	}
	return nil
}

func TestPutAndTake(t *testing.T) {
	for _, c := range laid {
		want := raw(c.bytes)
		if s, e := command.Put(c.c); s != want || e != api.OK {
			t.Errorf("Put(%#v) = %x, %d, not %x", c.c, s, e, want)
		}
		if fault := faultOfTake(want, c.c); fault != nil {
			t.Error(fault)
		}
		if s, e := command.Batch(c.c); s != "\x01"+want || e != api.OK {
			t.Errorf("Batch(%#v) = %x, %d, not 01 %x", c.c, s, e, want)
		}
	}
	if s, e := command.Put(api.Command{Kind: api.Annul, Target: 5, Fields: []api.Field{}}); s != "\x03\x0a" || e != api.OK {
		t.Errorf("Put of a list that is empty, and not nil, = %x, %d", s, e)
	}
}

// TestPutAndTakeMany puts right commands of any parts, and takes them again.
func TestPutAndTakeMany(t *testing.T) {
	r := rand.New(rand.NewSource(142))
	for range 10_000 {
		c := someRight(r)
		s, e := command.Put(c)
		if e != api.OK {
			t.Fatalf("Put(%#v) = %x, %d", c, s, e)
		}
		if fault := faultOfTake(s, c); fault != nil {
			t.Fatal(fault)
		}
	}
	// Entities of each length, and lists of each number of fields with names of each length.
	for n := 1; n <= 24; n++ {
		c := appends(strings.Repeat("\xfe", n), sp(n, 2*n))
		for k := range min(n, 8) {
			c.Fields = append(c.Fields, fl("abcdefgh"[k:k+1]+strings.Repeat("-", min(n, 12)-1), n-2*k))
		}
		s, e := command.Put(c)
		if len(s) < n || e != api.OK {
			t.Errorf("Put(%#v) = %x, %d", c, s, e)
		}
		if fault := faultOfTake(s, c); fault != nil {
			t.Error(fault)
		}
	}
}

// slowLay lays the parts that a kind has, by the words of the chapter, of a command that may be or not, as far as they may be laid.
func slowLay(c api.Command) string {
	num := func(n int) string {
		s, _ := pack.Num(max(0, min(n, 1<<62-1)))
		return s
	}
	sign := func(n int) string {
		s, _ := pack.Int(max(-1<<61, min(n, 1<<61-1)))
		return s
	}
	setting := sign(c.Span.From) + num(c.Span.To-c.Span.From) + num(len(c.Fields))
	for _, f := range c.Fields {
		setting += pack.Text(f.Name) + sign(f.Value)
	}
	switch c.Kind {
	case 1:
		return num(1) + pack.Text(c.Entity) + setting
	case 2:
		return num(2) + sign(c.Target) + setting
	case 3:
		return num(3) + sign(c.Target)
	}
	return num(c.Kind) + sign(c.Target) + setting
}

// slowTake reads by the words of the chapter, and tells nothing beside an error.
func slowTake(s string) (api.Command, string, api.Errno) {
	c, rest, e := slowRead(s)
	if e == api.OK && slowRight(c) != api.OK {
		e = api.ErrForm
	}
	if e != api.OK {
		return api.Command{}, "", e
	}
	return c, rest, e
}

// slowRead reads a command from the left, whether it may be or not.
func slowRead(s string) (c api.Command, rest string, e api.Errno) {
	if c.Kind, s, e = pack.TakeNum(s); e != api.OK {
		return
	}
	switch c.Kind {
	case 1:
		c.Entity, s, e = pack.TakeText(s, 24)
	case 2, 3:
		c.Target, s, e = pack.TakeInt(s)
	default:
		e = api.ErrForm
	}
	if e != api.OK || c.Kind == 3 {
		return c, s, e
	}
	if c.Span.From, s, e = pack.TakeInt(s); e != api.OK {
		return
	}
	long := 0
	if long, s, e = pack.TakeNum(s); e != api.OK {
		return
	}
	c.Span.To = c.Span.From + long
	c.Fields, s, e = field.Take(s)
	return c, s, e
}

// TestPutOfAny holds what is put, or refused, of any commands against the words of the chapter.
func TestPutOfAny(t *testing.T) {
	r := rand.New(rand.NewSource(143))
	put := 0
	for range 200_000 {
		c := someCommand(r)
		want, wantE := slowLay(c), slowRight(c)
		if wantE != api.OK {
			want = ""
		}
		s, e := command.Put(c)
		if s != want || e != wantE {
			t.Fatalf("Put(%#v) = %x, %d, not %x, %d", c, s, e, want, wantE)
		}
		if e == api.OK {
			put++
		}
	}
	if put < 1000 {
		t.Errorf("only %d were put", put)
	}
}

func TestTakeOfWrongOnes(t *testing.T) {
	for _, c := range []struct {
		bytes string
		want  api.Errno
	}{
		{"", api.ErrEnd},
		// The kind.
		{"80", api.ErrEnd},
		{"ff", api.ErrEnd},
		{"8001 01 65 00 01 00", api.ErrForm},
		{"8003 0a", api.ErrForm},
		{"ff4000000000000000 0a", api.ErrForm},
		{"00", api.ErrForm},
		{"00 01 65 00 01 00", api.ErrForm},
		{"04", api.ErrForm},
		{"04 0a", api.ErrForm},
		{"04 80", api.ErrForm},
		{"7f 0a", api.ErrForm},
		{"8080 0a", api.ErrForm},
		{"8103 0a", api.ErrForm},
		{"ff3fffffffffffffff 0a", api.ErrForm},
		// The reader's errors, place by place.
		{"03", api.ErrEnd},
		{"03 80", api.ErrEnd},
		{"03 800a", api.ErrForm},
		{"03 ff4000000000000000", api.ErrForm},
		{"02", api.ErrEnd},
		{"02 f9ffff", api.ErrEnd},
		{"02 800a 00 01 00", api.ErrForm},
		{"02 0a", api.ErrEnd},
		{"02 0a 80", api.ErrEnd},
		{"02 0a 8001 01 00", api.ErrForm},
		{"02 0a 00", api.ErrEnd},
		{"02 0a 00 80", api.ErrEnd},
		{"02 0a 00 8001 00", api.ErrForm},
		{"02 0a 00 01", api.ErrEnd},
		{"02 0a 00 01 80", api.ErrEnd},
		{"02 0a 00 01 8001", api.ErrForm},
		{"02 0a 00 01 09", api.ErrBig},
		{"02 0a 00 01 01", api.ErrEnd},
		{"02 0a 00 01 01 0161", api.ErrEnd},
		{"02 0a 00 01 01 0141 02", api.ErrForm},
		{"02 0a 00 01 01 0d", api.ErrBig},
		{"02 0a 00 01 01 0161 8001", api.ErrForm},
		{"02 0a 00 01 02 016202 016104", api.ErrForm},
		{"02 0a 00 01 02 016102 016102", api.ErrForm},
		{"01", api.ErrEnd},
		{"01 80", api.ErrEnd},
		{"01 01", api.ErrEnd},
		{"01 02 65", api.ErrEnd},
		{"01 8001 65 00 01 00", api.ErrForm},
		{"01 01 65", api.ErrEnd},
		{"01 01 65 00", api.ErrEnd},
		{"01 01 65 00 01", api.ErrEnd},
		{"01 01 65 00 01 09", api.ErrBig},
		// An entity of too many bytes, whether they are there or not.
		{"01 19", api.ErrBig},
		{"01 19 6b6b6b6b6b6b6b6b 6b6b6b6b6b6b6b6b 6b6b6b6b6b6b6b6b 6b 00 01 00", api.ErrBig},
		{"01 8080", api.ErrBig},
		{"01 ff3fffffffffffffff", api.ErrBig},
		{"01 ff4000000000000000", api.ErrForm},
		// All is read, but it may not be.
		{"01 00 00 01 00", api.ErrForm},
		{"01 01 65 00 00 00", api.ErrForm},
		{"01 01 65 00 00 01 016102", api.ErrForm},
		{"01 01 65 fa0000000000 01 00", api.ErrForm},
		{"01 01 65 fa0000000001 01 00", api.ErrForm},
		{"01 01 65 f9fffffffffe 02 00", api.ErrForm},
		{"01 01 65 f9ffffffffff fa0000000001 00", api.ErrForm},
		{"01 01 65 ff3ffffffffffffffe ff3fffffffffffffff 00", api.ErrForm},
		{"01 01 65 ff3fffffffffffffff ff3fffffffffffffff 00", api.ErrForm},
		{"02 00 00 01 00", api.ErrForm},
		{"02 11 00 01 00", api.ErrForm},
		{"02 0a 00 00 00", api.ErrForm},
		{"02 fa0000000000 00 01 00", api.ErrForm},
		{"03 00", api.ErrForm},
		{"03 11", api.ErrForm},
		{"03 fa0000000000", api.ErrForm},
		{"03 f9ffffffffff", api.ErrForm},
		{"03 ff3ffffffffffffffe", api.ErrForm},
		{"03 ff3fffffffffffffff", api.ErrForm},
		// What can't be read is told of ahead of what may not be.
		{"01 00", api.ErrEnd},
		{"01 00 00 00", api.ErrEnd},
		{"01 00 00 00 09", api.ErrBig},
		{"02 00", api.ErrEnd},
		{"02 00 00 00 09", api.ErrBig},
		{"02 11 00 00 01 0161", api.ErrEnd},
	} {
		if got, rest, e := command.Take(raw(c.bytes)); !same(got, api.Command{}) || rest != "" || e != c.want {
			t.Errorf("Take(%s) = %#v, %x, %d, not %d", c.bytes, got, rest, e, c.want)
		}
		if fault := faultOfBytes(raw(c.bytes)); fault != nil {
			t.Error(fault)
		}
		// The same is told of a batch at whose end it stands.
		if l, e := command.Unbatch("\x02\x03\x0a" + raw(c.bytes)); len(l) > 0 || e != c.want {
			t.Errorf("Unbatch of Annul, and of %s, = %#v, %d, not %d", c.bytes, l, e, c.want)
		}
	}
}

// TestTakeOfMayNotBe lays any commands, also such as Put refuses: what is read of them, but may not be, is refused, too.
func TestTakeOfMayNotBe(t *testing.T) {
	r := rand.New(rand.NewSource(144))
	refused := 0
	for range 100_000 {
		s := slowLay(someCommand(r))
		if fault := faultOfBytes(s); fault != nil {
			t.Fatal(fault)
		}
		if _, _, e := command.Take(s); e == api.ErrForm {
			refused++
		}
	}
	if refused < 1000 {
		t.Errorf("only %d were refused", refused)
	}
}

// faultOfBytes holds what Take and Unbatch tell of bytes against the words of the chapter, and against its being put again.
func faultOfBytes(s string) error {
	want, wantRest, wantE := slowTake(s)
	c, rest, e := command.Take(s)
	if !same(c, want) || rest != wantRest || e != wantE {
		return fmt.Errorf("Take(%x) = %#v, %x, %d, not %#v, %x, %d", s, c, rest, e, want, wantRest, wantE)
	}
	if again, put := command.Put(c); e == api.OK && (again+rest != s || put != api.OK) {
		return fmt.Errorf("Take(%x) = %#v, %x, put again as %x, %d", s, c, rest, again, put)
	}
	return faultOfBatch(s)
}

// faultOfBatch does the same of a batch.
func faultOfBatch(s string) error {
	want, wantE := slowUnbatch(s)
	l, e := command.Unbatch(s)
	if !sketch.SameCommands(l, want) || e != wantE {
		return fmt.Errorf("Unbatch(%x) = %#v, %d, not %#v, %d", s, l, e, want, wantE)
	}
	if again, put := command.Batch(l...); e == api.OK && (again != s || put != api.OK) {
		return fmt.Errorf("Unbatch(%x) = %#v, put again as %x, %d", s, l, again, put)
	}
	return nil
}

// slowUnbatch reads a batch by the words of the chapter.
func slowUnbatch(s string) ([]api.Command, api.Errno) {
	n, s, e := pack.TakeNum(s)
	switch {
	case e != api.OK:
		return nil, e
	case n == 0:
		return nil, api.ErrArg
	case n > 8:
		return nil, api.ErrBig
	}
	var l []api.Command
	for len(l) < n {
		var c api.Command
		if c, s, e = slowTake(s); e != api.OK {
			return nil, e
		}
		l = append(l, c)
	}
	if s != "" {
		return nil, api.ErrForm
	}
	return l, api.OK
}

// someLaid answers the bytes of right commands: those of the table, and others.
func someLaid(r *rand.Rand, n int) []string {
	var l []string
	for _, c := range laid {
		l = append(l, raw(c.bytes))
	}
	for range n {
		s, _ := command.Put(someRight(r))
		l = append(l, s)
	}
	return l
}

// TestTakeOfCuts: of each part of such bytes, from the front, nothing is taken.
func TestTakeOfCuts(t *testing.T) {
	for _, s := range someLaid(rand.New(rand.NewSource(145)), 500) {
		for n := range s {
			if c, rest, e := command.Take(s[:n]); !same(c, api.Command{}) || rest != "" || e != api.ErrEnd {
				t.Fatalf("Take(%x), of %x, = %#v, %x, %d", s[:n], s, c, rest, e)
			}
		}
	}
}

// TestTakeOfChanged makes each byte of such bytes each other one, and leaves bytes out, or puts more in.
func TestTakeOfChanged(t *testing.T) {
	for _, s := range someLaid(rand.New(rand.NewSource(146)), 30) {
		for changed := range sketch.Changed(s) {
			if fault := faultOfBytes(changed); fault != nil {
				t.Fatal(fault)
			}
		}
	}
}

// TestTakeOfAllShort goes over all texts of up to seven bytes of a small alphabet.
func TestTakeOfAllShort(t *testing.T) {
	const alphabet = "\x00\x01\x02\x03\x04a\x80"
	taken := map[int]int{}
	for s := range sketch.Short(alphabet, 7) {
		if fault := faultOfBytes(s); fault != nil {
			t.Fatal(fault)
		}
		if c, _, e := command.Take(s); e == api.OK {
			taken[c.Kind]++
		}
	}
	for _, kind := range []int{1, 2, 3} {
		if taken[kind] < 500 {
			t.Errorf("of the kind %d only %d were taken", kind, taken[kind])
		}
	}
}

// TestTakeOfAny goes over texts of any bytes, and of bytes that commands have often.
func TestTakeOfAny(t *testing.T) {
	r := rand.New(rand.NewSource(147))
	const often = "\x00\x00\x01\x01\x01\x02\x02\x02\x03\x03\x03\x08\x09\x0a\x18\x19ae\x80\xf8\xff"
	for range 200_000 {
		if fault := faultOfBytes(sketch.Garbled(r.Intn, often, 20)); fault != nil {
			t.Fatal(fault)
		}
	}
}

func TestBatch(t *testing.T) {
	one, two, three := appends("e", sp(0, 1)), correct(-1, day, fs("a1")...), annul(5)
	const ones, twos, threes = "\x01\x01e\x00\x01\x00", "\x02\x01\x00\x09\x01\x01a\x02", "\x03\x0a"
	eightOf := slices.Repeat([]api.Command{three}, 8)
	for _, c := range []struct {
		l    []api.Command
		want string
		e    api.Errno
	}{
		{nil, "", api.ErrArg},
		{[]api.Command{}, "", api.ErrArg},
		{[]api.Command{one}, "\x01" + ones, api.OK},
		{[]api.Command{one, two, three}, "\x03" + ones + twos + threes, api.OK},
		{[]api.Command{three, two, one}, "\x03" + threes + twos + ones, api.OK},
		{[]api.Command{three, three}, "\x02" + threes + threes, api.OK},
		// A place in the batch is not looked at: whether it is there is told when the batch is recorded.
		{[]api.Command{two}, "\x01" + twos, api.OK},
		{[]api.Command{annul(-8), one}, "\x02\x03\x0f" + ones, api.OK},
		{eightOf, "\x08" + strings.Repeat(threes, 8), api.OK},
		{append(eightOf[:7:7], one), "\x08" + strings.Repeat(threes, 7) + ones, api.OK},
		{append(eightOf[:8:8], three), "", api.ErrBig},
		{slices.Repeat(eightOf, 1000), "", api.ErrBig},
		{make([]api.Command, 9), "", api.ErrBig},
		// The first one's error is told.
		{[]api.Command{{}}, "", api.ErrArg},
		{[]api.Command{one, appends(tooLong, day)}, "", api.ErrBig},
		{[]api.Command{correct(1, sp(3, 3)), appends(tooLong, day)}, "", api.ErrSpan},
		{[]api.Command{one, three, appends("e", day, fs("b1 a1")...), {}}, "", api.ErrOrder},
		{append(eightOf[:7:7], api.Command{Kind: api.Annul, Entity: "e"}), "", api.ErrForm},
		{append(eightOf[:7:7], annul(0)), "", api.ErrArg},
	} {
		s, e := command.Batch(c.l...)
		if s != c.want || e != c.e {
			t.Errorf("Batch(%#v) = %x, %d, not %x, %d", c.l, s, e, c.want, c.e)
		}
		if l, e := command.Unbatch(s); c.e == api.OK && (!sketch.SameCommands(l, c.l) || e != api.OK) {
			t.Errorf("Unbatch(%x) = %#v, %d, not %#v", s, l, e, c.l)
		}
	}
}

func TestUnbatchOfWrongOnes(t *testing.T) {
	for _, c := range []struct {
		bytes string
		want  api.Errno
	}{
		// How many.
		{"", api.ErrEnd},
		{"80", api.ErrEnd},
		{"8001 03 0a", api.ErrForm},
		{"ff4000000000000000", api.ErrForm},
		{"00", api.ErrArg},
		{"00 03 0a", api.ErrArg},
		{"09", api.ErrBig},
		{"09 030a 030a 030a 030a 030a 030a 030a 030a 030a", api.ErrBig},
		{"09 04", api.ErrBig},
		{"8080", api.ErrBig},
		{"ff3fffffffffffffff", api.ErrBig},
		// Fewer than that.
		{"01", api.ErrEnd},
		{"02 030a", api.ErrEnd},
		{"02 030a 03", api.ErrEnd},
		{"08 030a 030a 030a 030a 030a 030a 030a", api.ErrEnd},
		// More than that.
		{"01 030a 00", api.ErrForm},
		{"01 030a 030a", api.ErrForm},
		{"01 030a ff", api.ErrForm},
		{"02 030a 01 01 65 00 01 00 00", api.ErrForm},
		{"08 030a 030a 030a 030a 030a 030a 030a 030a 030a", api.ErrForm},
		// The first one's error, ahead of that bytes are left.
		{"01 04", api.ErrForm},
		{"02 01 19 04", api.ErrBig},
		{"02 038001 80", api.ErrForm},
		{"02 030a 01 01 65 00 01 09 00", api.ErrBig},
		{"03 030a 0300 01 19", api.ErrForm},
		{"03 030a 01 19 0300", api.ErrBig},
	} {
		if l, e := command.Unbatch(raw(c.bytes)); len(l) > 0 || e != c.want {
			t.Errorf("Unbatch(%s) = %#v, %d, not %d", c.bytes, l, e, c.want)
		}
		if fault := faultOfBatch(raw(c.bytes)); fault != nil {
			t.Error(fault)
		}
	}
}

// TestBatchOfMany puts batches of right commands, some with one that may not be among them, and takes them again: whole, cut, and with more behind.
func TestBatchOfMany(t *testing.T) {
	r := rand.New(rand.NewSource(148))
	for range 3000 {
		l := make([]api.Command, 1+r.Intn(8))
		for i := range l {
			l[i] = someRight(r)
		}
		s, e := command.Batch(l...)
		if e != api.OK {
			t.Fatalf("Batch(%#v) = %x, %d", l, s, e)
		}
		if got, e := command.Unbatch(s); !sketch.SameCommands(got, l) || e != api.OK {
			t.Fatalf("Unbatch(%x) = %#v, %d, not %#v", s, got, e, l)
		}
		for _, behind := range behinds[1:] {
			if got, e := command.Unbatch(s + behind); len(got) > 0 || e != api.ErrForm {
				t.Fatalf("Unbatch(%x %x) = %#v, %d", s, behind, got, e)
			}
		}
		if got, e := command.Unbatch(s[:r.Intn(len(s))]); len(got) > 0 || e != api.ErrEnd {
			t.Fatalf("Unbatch of a part of %x = %#v, %d", s, got, e)
		}
		want := api.OK
		for i := range l {
			if r.Intn(4) == 0 {
				l[i] = someCommand(r)
			}
			if want == api.OK {
				want = slowRight(l[i])
			}
		}
		if s, e := command.Batch(l...); e != want || (s == "") != (e != api.OK) {
			t.Fatalf("Batch(%#v) = %x, %d, not %d", l, s, e, want)
		}
	}
}

func TestUnbatchOfChanged(t *testing.T) {
	r := rand.New(rand.NewSource(149))
	for range 12 {
		s, _ := command.Batch(someRight(r), someRight(r), someRight(r))
		for changed := range sketch.Changed(s) {
			if fault := faultOfBatch(changed); fault != nil {
				t.Fatal(fault)
			}
		}
	}
}

// TestAnswersAreNew: what is written to an answer is seen neither in another one nor in an argument.
func TestAnswersAreNew(t *testing.T) {
	c := correct(1, day, fs("a1 b2")...)
	last := vs(1, 2, "e", day, fs("c3")...)
	s, _ := command.Put(c)
	b, _ := command.Batch(c, c)
	for i, answer := range []func() []api.Field{
		func() []api.Field { v, _ := command.Make(2, last, true, c); return v.Fields },
		func() []api.Field {
			v, _ := command.Make(2, last, true, appends("e", day, c.Fields...))
			return v.Fields
		},
		func() []api.Field { c, _, _ := command.Take(s); return c.Fields },
		func() []api.Field { l, _ := command.Unbatch(b); return l[0].Fields },
		func() []api.Field { l, _ := command.Unbatch(b); return l[1].Fields },
	} {
		first, second := answer(), answer()
		_ = append(first[:1], fl("y", -1))
		first[0] = fl("x", -1)
		if !slices.Equal(second, fs("a1 b2")) || !slices.Equal(answer(), second) || !slices.Equal(c.Fields, second) || !slices.Equal(last.Fields, fs("c3")) {
			t.Errorf("%d: %v, %v, %v, %v", i, second, answer(), c.Fields, last.Fields)
		}
	}
	// No two commands of one answer share their fields.
	l, _ := command.Unbatch(b)
	l[0].Fields[1], l[0].Kind = fl("x", -1), 7
	_ = append(l[0].Fields, fl("y", -1))
	if !same(l[1], c) {
		t.Errorf("%#v", l[1])
	}
	// What is written to an argument later is not seen in an answer.
	made, _ := command.Make(2, last, true, c)
	c.Fields[0], last.Fields[0] = fl("x", -1), fl("x", -1)
	if !slices.Equal(made.Fields, fs("a1 b2")) {
		t.Errorf("%#v", made)
	}
}

// TestArgumentsStay: no call writes to its arguments, nor behind their ends.
func TestArgumentsStay(t *testing.T) {
	wild := fs("b2 a1 A1 c3")
	for n := range len(wild) + 1 {
		for _, c := range []api.Command{appends("e", day, wild[:n]...), correct(1, day, wild[:n]...), {Kind: api.Annul, Target: 1, Fields: wild[:n]}} {
			l := []api.Command{c, annul(1), c, {}}
			was := sketch.CopyCommands(l)
			command.Right(c)
			command.Put(c)
			command.Batch(l[:3]...)
			command.Batch(l...)
			command.Make(3, vs(1, 2, "e", day, wild[:n]...), true, c)
			if !sketch.SameCommands(l, was) || !slices.Equal(wild, fs("b2 a1 A1 c3")) {
				t.Fatalf("%#v was written to: %#v, %v", was, l, wild)
			}
		}
	}
}

// TestEndsEverywhere asks all calls for arguments that are long, or wrong in all their parts: none panics.
func TestEndsEverywhere(t *testing.T) {
	long := strings.Repeat("\xff", 1<<20)
	many := slices.Repeat([]api.Field{{Name: long, Value: -1 << 63}}, 10_000)
	some := slices.Concat(targets, noTargets, noKinds, []int{1, 2, 3})
	for _, n := range some {
		for _, m := range some {
			for _, c := range []api.Command{
				{Kind: n, Entity: long, Target: m, Span: sp(m, n), Fields: many},
				{Kind: m, Target: n, Span: sp(n, m)},
				{Kind: n, Entity: long, Fields: many},
				{Kind: m, Span: day, Fields: many},
			} {
				want := slowRight(c)
				if e := command.Right(c); e != want {
					t.Errorf("Right of %d, %d = %d, not %d", n, m, e, want)
				}
				if _, e := command.Put(c); e != want {
					t.Errorf("Put of %d, %d = %d, not %d", n, m, e, want)
				}
				if _, e := command.Batch(annul(1), c); e != want {
					t.Errorf("Batch of %d, %d = %d, not %d", n, m, e, want)
				}
				last := api.Version{ID: n, Stamp: m, Entity: long, Span: sp(n, m), Fields: many}
				if _, e := command.Make(m, last, true, c); want != api.OK && e != want {
					t.Errorf("Make of %d, %d = %d, not %d", n, m, e, want)
				}
			}
		}
	}
	// Of a last that no store has recorded, too, something is made, or an error told.
	for _, id := range targets {
		for _, stamp := range []int{math.MinInt, -1, 0, 1, 1<<40 - 1, math.MaxInt} {
			for _, now := range someNows {
				command.Make(now, vs(id, stamp, long, sp(id, stamp), many...), true, annul(id))
				command.Make(now, vs(id, stamp, "", sp(id, stamp), many...), true, correct(id, day, eight...))
			}
		}
	}
	for _, s := range []string{long, strings.Repeat("\x00", 1<<20), strings.Repeat("\x01", 1<<20), strings.Repeat("\x03", 1<<20), strings.Repeat("\x80", 1<<20), "\x01\x18" + long, "\x03\x0a" + long, "\x08\x03\x0a" + long} {
		if fault := faultOfBytes(s); fault != nil {
			t.Errorf("%.200s", fault)
		}
	}
}
