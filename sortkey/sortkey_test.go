package sortkey_test

import (
	"cmp"
	"math"
	"math/big"
	"math/rand"
	"slices"
	"strings"
	"testing"

	"erratum/api"
	"erratum/sketch"
	"erratum/sortkey"
)

// raw makes the writing of bytes short.
var raw = sketch.Raw

// num and txt make the writing of parts short.
func num(n int) sortkey.Part    { return sortkey.Part{Int: true, N: n} }
func txt(s string) sortkey.Part { return sortkey.Part{S: s} }

// slowInt lays a number by the words of the chapter.
func slowInt(n int) string {
	x := new(big.Int).Lsh(big.NewInt(1), 63)
	x.Add(x, big.NewInt(int64(n)))
	return string(x.FillBytes(make([]byte, 8)))
}

// slowText lays a text by the words of the chapter.
func slowText(s string) string {
	return strings.ReplaceAll(s, "\x00", "\x00\xff") + "\x00\x00"
}

// slowJoin lays parts by the words of the chapter.
func slowJoin(l []sortkey.Part) string {
	var keys []string
	for _, p := range l {
		if p.Int {
			keys = append(keys, slowInt(p.N))
		} else {
			keys = append(keys, slowText(p.S))
		}
	}
	return strings.Join(keys, "")
}

// ints are numbers with their keys, rising: both ends of int, those around 0, and both sides of some borders between bytes.
var ints = []struct {
	n   int
	key string
}{
	{math.MinInt, "0000000000000000"},
	{math.MinInt + 1, "0000000000000001"},
	{math.MinInt + 255, "00000000000000ff"},
	{math.MinInt + 256, "0000000000000100"},
	{-1 << 62, "4000000000000000"},
	{-0x0123456789abcdef, "7edcba9876543211"},
	{-1<<56 - 1, "7effffffffffffff"},
	{-1 << 56, "7f00000000000000"},
	{-1 << 40, "7fffff0000000000"},
	{-1 << 32, "7fffffff00000000"},
	{-257, "7ffffffffffffeff"},
	{-256, "7fffffffffffff00"},
	{-255, "7fffffffffffff01"},
	{-2, "7ffffffffffffffe"},
	{-1, "7fffffffffffffff"},
	{0, "8000000000000000"},
	{1, "8000000000000001"},
	{2, "8000000000000002"},
	{255, "80000000000000ff"},
	{256, "8000000000000100"},
	{1<<32 - 1, "80000000ffffffff"},
	{1 << 32, "8000000100000000"},
	{1 << 40, "8000010000000000"},
	{1<<56 - 1, "80ffffffffffffff"},
	{1 << 56, "8100000000000000"},
	{0x0123456789abcdef, "8123456789abcdef"},
	{1 << 62, "c000000000000000"},
	{math.MaxInt - 1, "fffffffffffffffe"},
	{math.MaxInt, "ffffffffffffffff"},
}

// texts are texts with their keys, rising.
var texts = []struct{ text, key string }{
	{"", "0000"},
	{"\x00", "00ff 0000"},
	{"\x00\x00", "00ff 00ff 0000"},
	{"\x00\x00\x00", "00ff 00ff 00ff 0000"},
	{"\x00\x01", "00ff 01 0000"},
	{"\x00\xfe", "00ff fe 0000"},
	{"\x00\xff", "00ff ff 0000"},
	{"\x00\xff\x00", "00ff ff 00ff 0000"},
	{"\x01", "01 0000"},
	{"\x01\x00", "01 00ff 0000"},
	{"\x01\x01", "01 01 0000"},
	{"a", "61 0000"},
	{"a\x00", "61 00ff 0000"},
	{"a\x00\x00", "61 00ff 00ff 0000"},
	{"a\x00b", "61 00ff 62 0000"},
	{"a\x01", "61 01 0000"},
	{"ab", "61 62 0000"},
	{"a\xff", "61 ff 0000"},
	{"b", "62 0000"},
	{"ä", "c3 a4 0000"},
	{"\xfe", "fe 0000"},
	{"\xfe\xff", "fe ff 0000"},
	{"\xff", "ff 0000"},
	{"\xff\x00", "ff 00ff 0000"},
	{"\xff\x00\xff", "ff 00ff ff 0000"},
	{"\xff\xff", "ff ff 0000"},
}

// behinds are texts that may stand behind what is taken.
var behinds = []string{"", "x", "\x00", "\x00\x00", "\x00\xff", "\x00\x01", "\x01", "\xfe", "\xff", "\xff\xff\x00\x00", strings.Repeat("\x00", 20)}

// someInts answers numbers of any length, above and below 0, those near each power of two among them.
func someInts() []int {
	var l []int
	for bit := range 64 {
		for d := -2; d <= 2; d++ {
			l = append(l, 1<<bit+d, -(1<<bit + d))
		}
	}
	r := rand.New(rand.NewSource(5))
	for range 20_000 {
		n := int(r.Uint64()) >> r.Intn(64)
		l = append(l, n)
	}
	return l
}

// words answers all texts of up to so many bytes of an alphabet.
func words(alphabet string, most int) []string {
	all := []string{""}
	last := all
	for range most {
		var longer []string
		for _, s := range last {
			for i := range len(alphabet) {
				longer = append(longer, s+alphabet[i:i+1])
			}
		}
		all = append(all, longer...)
		last = longer
	}
	return all
}

func TestInt(t *testing.T) {
	for _, c := range ints {
		if got := sortkey.Int(c.n); got != raw(c.key) {
			t.Errorf("Int(%d) = %x, not %s", c.n, got, c.key)
		}
	}
	for _, n := range someInts() {
		if got := sortkey.Int(n); got != slowInt(n) {
			t.Fatalf("Int(%d) = %x, not %x", n, got, slowInt(n))
		}
	}
}

func TestText(t *testing.T) {
	for _, c := range texts {
		if got := sortkey.Text(c.text); got != raw(c.key) {
			t.Errorf("Text(%x) = %x, not %s", c.text, got, c.key)
		}
	}
	for _, s := range words("\x00\x01a\xfe\xff", 5) {
		if got := sortkey.Text(s); got != slowText(s) {
			t.Fatalf("Text(%x) = %x, not %x", s, got, slowText(s))
		}
	}
	for b := range 256 {
		s := string([]byte{byte(b)})
		if got := sortkey.Text(s); got != slowText(s) {
			t.Errorf("Text(%x) = %x, not %x", s, got, slowText(s))
		}
	}
	for _, s := range []string{strings.Repeat("\x00", 1<<20), strings.Repeat("a\x00\xff", 1<<18), strings.Repeat("b", 1<<20)} {
		if got := sortkey.Text(s); got != slowText(s) {
			t.Errorf("Text of %d bytes is %d bytes", len(s), len(got))
		}
	}
}

func TestJoin(t *testing.T) {
	for _, c := range []struct {
		l   []sortkey.Part
		key string
	}{
		{nil, ""},
		{[]sortkey.Part{}, ""},
		{[]sortkey.Part{num(0)}, "8000000000000000"},
		{[]sortkey.Part{txt("")}, "0000"},
		{[]sortkey.Part{{}}, "0000"},
		{[]sortkey.Part{txt(""), txt("")}, "0000 0000"},
		{[]sortkey.Part{txt("\x00"), txt("\xff")}, "00ff 0000 ff 0000"},
		{[]sortkey.Part{txt("s"), num(-1)}, "73 0000 7fffffffffffffff"},
		{[]sortkey.Part{num(math.MaxInt), txt("a\x00"), num(math.MinInt)}, "ffffffffffffffff 61 00ff 0000 0000000000000000"},
		// What a part is not does not count.
		{[]sortkey.Part{{Int: true, N: 1, S: "x\x00"}}, "8000000000000001"},
		{[]sortkey.Part{{N: 7, S: "x"}}, "78 0000"},
		{[]sortkey.Part{{N: math.MinInt}, {Int: true, S: "\x00"}}, "0000 8000000000000000"},
	} {
		if got := sortkey.Join(c.l...); got != raw(c.key) {
			t.Errorf("Join(%#v) = %x, not %s", c.l, got, c.key)
		}
	}
	r := rand.New(rand.NewSource(51))
	for range 5000 {
		l := someParts(r, someKinds(r))
		if got := sortkey.Join(l...); got != slowJoin(l) {
			t.Fatalf("Join(%#v) = %x, not %x", l, got, slowJoin(l))
		}
	}
}

// someKinds answers up to five kinds.
func someKinds(r *rand.Rand) string {
	kinds := make([]byte, r.Intn(6))
	for i := range kinds {
		kinds[i] = "it"[r.Intn(2)]
	}
	return string(kinds)
}

// someParts answers parts of these kinds, near each other ones often.
func someParts(r *rand.Rand, kinds string) []sortkey.Part {
	var l []sortkey.Part
	for _, kind := range kinds {
		if kind == 'i' {
			l = append(l, num(someInt(r)))
		} else {
			l = append(l, txt(someText(r)))
		}
	}
	return l
}

func someInt(r *rand.Rand) int {
	switch r.Intn(3) {
	case 0:
		return ints[r.Intn(len(ints))].n
	case 1:
		return r.Intn(5) - 2
	}
	return int(r.Uint64()) >> r.Intn(64)
}

func someText(r *rand.Rand) string {
	if r.Intn(2) == 0 {
		return texts[r.Intn(len(texts))].text
	}
	s := make([]byte, r.Intn(6))
	for i := range s {
		s[i] = "\x00\x00\x01ab\xfe\xff\xff"[r.Intn(8)]
	}
	return string(s)
}

// TestTakeInt: the key of each number is taken as it, whatever is behind it.
func TestTakeInt(t *testing.T) {
	for _, c := range ints {
		for _, behind := range behinds {
			if n, rest, e := sortkey.TakeInt(raw(c.key) + behind); n != c.n || rest != behind || e != api.OK {
				t.Errorf("TakeInt(%s %x) = %d, %x, %d", c.key, behind, n, rest, e)
			}
		}
	}
	for _, n := range someInts() {
		if got, rest, e := sortkey.TakeInt(sortkey.Int(n) + "\x00"); got != n || rest != "\x00" || e != api.OK {
			t.Fatalf("%d is taken as %d, %x, %d", n, got, rest, e)
		}
	}
}

// TestTakeIntOfAnyBytes: eight bytes are always a number's key, and are laid again as they were.
func TestTakeIntOfAnyBytes(t *testing.T) {
	r := rand.New(rand.NewSource(52))
	for range 20_000 {
		s := make([]byte, 8+r.Intn(4))
		for i := range s {
			s[i] = byte(r.Intn(256))
		}
		n, rest, e := sortkey.TakeInt(string(s))
		if sortkey.Int(n)+rest != string(s) || len(rest) != len(s)-8 || e != api.OK {
			t.Fatalf("TakeInt(%x) = %d, %x, %d", s, n, rest, e)
		}
	}
}

func TestTakeIntThatEnds(t *testing.T) {
	for _, c := range ints {
		s := raw(c.key)
		for n := range s {
			if got, rest, e := sortkey.TakeInt(s[:n]); got != 0 || rest != "" || e != api.ErrEnd {
				t.Errorf("TakeInt(%x) = %d, %x, %d", s[:n], got, rest, e)
			}
		}
	}
}

// TestTakeText: the key of each text is taken as it, whatever is behind it; of less of it, the end is told.
func TestTakeText(t *testing.T) {
	for _, c := range texts {
		s := raw(c.key)
		for _, behind := range behinds {
			if got, rest, e := sortkey.TakeText(s + behind); got != c.text || rest != behind || e != api.OK {
				t.Errorf("TakeText(%x %x) = %x, %x, %d", s, behind, got, rest, e)
			}
		}
		for n := range s {
			if got, rest, e := sortkey.TakeText(s[:n]); got != "" || rest != "" || e != api.ErrEnd {
				t.Errorf("TakeText(%x) = %x, %x, %d", s[:n], got, rest, e)
			}
		}
	}
	for _, s := range []string{strings.Repeat("\x00", 1<<20), strings.Repeat("a\x00\xff", 1<<18), strings.Repeat("b", 1<<20)} {
		if got, rest, e := sortkey.TakeText(sortkey.Text(s) + "x"); got != s || rest != "x" || e != api.OK {
			t.Errorf("a text of %d bytes is taken as %d bytes, %x, %d", len(s), len(got), rest, e)
		}
	}
}

// TestTakeTextByByteBehindZero: a byte 0 is ahead of each byte there is, after nothing, after bytes, and after a 0 of the text's own.
func TestTakeTextByByteBehindZero(t *testing.T) {
	for _, ahead := range []struct{ text, key string }{
		{"", ""},
		{"a", "a"},
		{"\xff", "\xff"},
		{"\x01\xfe", "\x01\xfe"},
		{"\x00", "\x00\xff"},
		{"\x00\x00", "\x00\xff\x00\xff"},
		{"\x00\xff", "\x00\xff\xff"},
	} {
		for b := range 256 {
			s := ahead.key + string([]byte{0, byte(b)})
			for _, behind := range behinds {
				text, rest, e := "", "", api.ErrForm
				switch b {
				case 0:
					text, rest, e = ahead.text, behind+"z\x00\x00", api.OK
				case 255:
					// What is behind goes on with the text: it is taken as what begins there is.
					more, r, f := sortkey.TakeText(behind + "z\x00\x00")
					if f == api.OK {
						more = ahead.text + "\x00" + more
					}
					text, rest, e = more, r, f
				}
				got, gotRest, f := sortkey.TakeText(s + behind + "z\x00\x00")
				if got != text || gotRest != rest || f != e {
					t.Errorf("TakeText(%x %x 7a0000) = %x, %x, %d", s, behind, got, gotRest, f)
				}
			}
		}
	}
}

func TestTakeTextOfWrongBytes(t *testing.T) {
	for _, c := range []struct {
		s string
		e api.Errno
	}{
		{"", api.ErrEnd},
		{"a", api.ErrEnd},
		{"\xff\xff", api.ErrEnd},
		// A last byte 0 may still be ahead of a right one.
		{"\x00", api.ErrEnd},
		{"a\x00", api.ErrEnd},
		{"\x00\xff\x00", api.ErrEnd},
		{"\x00\xff", api.ErrEnd},
		{"a\x00\xffb", api.ErrEnd},
		{"\x00\xff\x00\xff", api.ErrEnd},
		{"\x00\xff\xff", api.ErrEnd},
		{"\x00\x01", api.ErrForm},
		{"\x00\xfe", api.ErrForm},
		{"\x00a", api.ErrForm},
		{"a\x00b", api.ErrForm},
		{"\x00\xff\x00\x01", api.ErrForm},
		{"\x00\xff\x01\x00\x02", api.ErrForm},
		// From the left: what is behind counts no more.
		{"a\x00b\x00\x00", api.ErrForm},
		{"a\x00b\x00", api.ErrForm},
		{"a\x00\x01\x00\xff", api.ErrForm},
	} {
		if got, rest, e := sortkey.TakeText(c.s); got != "" || rest != "" || e != c.e {
			t.Errorf("TakeText(%x) = %x, %x, %d", c.s, got, rest, e)
		}
	}
}

// TestTakeTextOfAll holds all short texts against all keys: one that begins with a key is taken as that key's text,
// of one that a key begins with the end is told, of all others the form.
func TestTakeTextOfAll(t *testing.T) {
	const alphabet = "\x00\x01a\xff"
	const most = 6
	keys := map[string]string{}
	begins := map[string]bool{}
	for _, text := range words(alphabet, most) {
		key := slowText(text)
		keys[key] = text
		for n := range key {
			begins[key[:n]] = true
		}
	}
	for _, s := range words(alphabet, most) {
		text, rest, want := "", "", api.ErrForm
		if begins[s] {
			want = api.ErrEnd
		}
		for n := range len(s) + 1 {
			if taken, ok := keys[s[:n]]; ok {
				text, rest, want = taken, s[n:], api.OK
			}
		}
		if got, gotRest, e := sortkey.TakeText(s); got != text || gotRest != rest || e != want {
			t.Fatalf("TakeText(%x) = %x, %x, %d, not %x, %x, %d", s, got, gotRest, e, text, rest, want)
		}
	}
}

func TestSplit(t *testing.T) {
	one, two := sortkey.Int(1), sortkey.Int(-2)
	a, zero := sortkey.Text("a"), sortkey.Text("\x00")
	for _, c := range []struct {
		s, kinds string
		want     []sortkey.Part
		e        api.Errno
	}{
		{"", "", nil, api.OK},
		{one, "i", []sortkey.Part{num(1)}, api.OK},
		{a, "t", []sortkey.Part{txt("a")}, api.OK},
		{"\x00\x00", "t", []sortkey.Part{txt("")}, api.OK},
		{"\x00\x00\x00\x00", "tt", []sortkey.Part{txt(""), txt("")}, api.OK},
		{one + two, "ii", []sortkey.Part{num(1), num(-2)}, api.OK},
		{zero + a, "tt", []sortkey.Part{txt("\x00"), txt("a")}, api.OK},
		{one + zero + two, "iti", []sortkey.Part{num(1), txt("\x00"), num(-2)}, api.OK},
		{a + one + zero, "tit", []sortkey.Part{txt("a"), num(1), txt("\x00")}, api.OK},
		// Eight bytes are a number's key, if a number is asked for, and a text's, if a text is.
		{"abcdef\x00\x00", "t", []sortkey.Part{txt("abcdef")}, api.OK},
		{"abcdef\x00\x00", "i", []sortkey.Part{num(0x6162636465660000 - 1<<63)}, api.OK},
		// Bytes are left: fewer parts are asked for than there are.
		{"x", "", nil, api.ErrBig},
		{"\x00", "", nil, api.ErrBig},
		{one, "", nil, api.ErrBig},
		{one + two, "i", nil, api.ErrBig},
		{one + "\x00", "i", nil, api.ErrBig},
		{a + zero, "t", nil, api.ErrBig},
		{a + "\x00", "t", nil, api.ErrBig},
		{a + one + zero, "ti", nil, api.ErrBig},
		// Bytes lack: more are asked for, or one is not there in whole.
		{"", "i", nil, api.ErrEnd},
		{"", "t", nil, api.ErrEnd},
		{one, "ii", nil, api.ErrEnd},
		{one, "it", nil, api.ErrEnd},
		{a, "tt", nil, api.ErrEnd},
		{a, "ti", nil, api.ErrEnd},
		{one[:7], "i", nil, api.ErrEnd},
		{one + two[:7], "ii", nil, api.ErrEnd},
		{a + zero[:3], "tt", nil, api.ErrEnd},
		{a, "i", nil, api.ErrEnd},
		// One is none.
		{"\x00a", "t", nil, api.ErrForm},
		{"\x00\x01\x00\x00", "t", nil, api.ErrForm},
		{a + "\x00\x01", "tt", nil, api.ErrForm},
		{one + "b\x00b", "it", nil, api.ErrForm},
		// The first part's error, ahead of those of later ones, and of bytes that are left.
		{"\x00a" + one[:7], "ti", nil, api.ErrForm},
		{"\x00a", "tt", nil, api.ErrForm},
		{"\x00a" + a + a, "tt", nil, api.ErrForm},
		{"a", "tt", nil, api.ErrEnd},
		{"\x00a\x00", "it", nil, api.ErrEnd},
	} {
		got, e := sortkey.Split(c.s, c.kinds)
		if !slices.Equal(got, c.want) || e != c.e {
			t.Errorf("Split(%x, %q) = %#v, %d, not %#v, %d", c.s, c.kinds, got, e, c.want, c.e)
		}
	}
}

// TestSplitWithWrongKinds: a byte that is no kind is told ahead of all that is wrong with the text.
func TestSplitWithWrongKinds(t *testing.T) {
	right := sortkey.Int(1) + sortkey.Text("a")
	for b := range 256 {
		if b == 'i' || b == 't' {
			continue
		}
		wrong := string([]byte{byte(b)})
		for _, kinds := range []string{"", "i", "it", "iti", "tt"} {
			for place := range len(kinds) + 1 {
				with := kinds[:place] + wrong + kinds[place:]
				for _, s := range []string{"", right, right + right, right[:9], "\x00", "\x00\x01", right + "\x00\x01", "a\x00b"} {
					if got, e := sortkey.Split(s, with); len(got) != 0 || e != api.ErrArg {
						t.Errorf("Split(%x, %q) = %#v, %d", s, with, got, e)
					}
				}
			}
		}
	}
}

// TestSplitWhatWasJoined: parts are split as they were; with a kind more, or one less, that is told.
func TestSplitWhatWasJoined(t *testing.T) {
	r := rand.New(rand.NewSource(53))
	for range 10_000 {
		kinds := someKinds(r)
		l := someParts(r, kinds)
		s := sortkey.Join(l...)
		if got, e := sortkey.Split(s, kinds); !slices.Equal(got, l) || e != api.OK {
			t.Fatalf("Split(%x, %q) = %#v, %d, not %#v", s, kinds, got, e, l)
		}
		for _, more := range []string{"i", "t"} {
			if got, e := sortkey.Split(s, kinds+more); len(got) != 0 || e != api.ErrEnd {
				t.Fatalf("Split(%x, %q) = %#v, %d", s, kinds+more, got, e)
			}
		}
		if kinds != "" {
			less := kinds[:len(kinds)-1]
			if got, e := sortkey.Split(s, less); len(got) != 0 || e != api.ErrBig {
				t.Fatalf("Split(%x, %q) = %#v, %d", s, less, got, e)
			}
		}
		for n := range s {
			if got, e := sortkey.Split(s[:n], kinds); len(got) != 0 || e != api.ErrEnd {
				t.Fatalf("Split(%x, %q) = %#v, %d", s[:n], kinds, got, e)
			}
		}
	}
}

// TestSplitOfParts: what a part is not is left out of it as it is joined.
func TestSplitOfParts(t *testing.T) {
	s := sortkey.Join(sortkey.Part{Int: true, N: 4, S: "x"}, sortkey.Part{N: 4, S: "x"})
	if got, e := sortkey.Split(s, "it"); !slices.Equal(got, []sortkey.Part{num(4), txt("x")}) || e != api.OK {
		t.Errorf("Split(%x) = %#v, %d", s, got, e)
	}
}

// TestSplitAndJoinAgain: what is split of any bytes is joined as the same ones.
func TestSplitAndJoinAgain(t *testing.T) {
	r := rand.New(rand.NewSource(54))
	for range 100_000 {
		s := make([]byte, r.Intn(22))
		for i := range s {
			s[i] = "\x00\x00\x00\xff\x01a"[r.Intn(6)]
		}
		kinds := someKinds(r)
		l, e := sortkey.Split(string(s), kinds)
		if e == api.OK && (len(l) != len(kinds) || sortkey.Join(l...) != string(s)) {
			t.Fatalf("Split(%x, %q) = %#v", s, kinds, l)
		}
		if e != api.OK && len(l) != 0 {
			t.Fatalf("Split(%x, %q) = %#v, %d", s, kinds, l, e)
		}
	}
}

func TestSplitOfMany(t *testing.T) {
	const n = 1 << 16
	l, e := sortkey.Split(strings.Repeat("\x00\x00", n), strings.Repeat("t", n))
	if len(l) != n || l[0] != txt("") || l[n-1] != txt("") || e != api.OK {
		t.Errorf("%d parts, %d", len(l), e)
	}
	if l, e := sortkey.Split("", strings.Repeat("i", n)); len(l) != 0 || e != api.ErrEnd {
		t.Errorf("%d parts, %d", len(l), e)
	}
	if l, e := sortkey.Split("", strings.Repeat("i", n)+"x"); len(l) != 0 || e != api.ErrArg {
		t.Errorf("%d parts, %d", len(l), e)
	}
}

// TestCompareOfParts: parts of one kind have their own order, and each number is ahead of each text.
func TestCompareOfParts(t *testing.T) {
	var rising []sortkey.Part
	for _, c := range ints {
		rising = append(rising, num(c.n))
	}
	for _, c := range texts {
		rising = append(rising, txt(c.text))
	}
	for i, a := range rising {
		for k, b := range rising {
			want := cmp.Compare(i, k)
			if got := sortkey.Compare([]sortkey.Part{a}, []sortkey.Part{b}); got != want {
				t.Fatalf("Compare(%#v, %#v) = %d", a, b, got)
			}
			// What a part is not does not count, whatever it is.
			for _, x := range []sortkey.Part{b, num(math.MinInt), num(math.MaxInt), txt(""), txt("\xff")} {
				for _, y := range []sortkey.Part{a, num(math.MinInt), num(math.MaxInt), txt(""), txt("\xff")} {
					withX, withY := filled(a, x), filled(b, y)
					if got := sortkey.Compare([]sortkey.Part{withX}, []sortkey.Part{withY}); got != want {
						t.Fatalf("Compare(%#v, %#v) = %d", withX, withY, got)
					}
				}
			}
		}
	}
}

// filled answers the part p with what it is not taken of another one.
func filled(p, other sortkey.Part) sortkey.Part {
	if p.Int {
		p.S = other.S
	} else {
		p.N = other.N
	}
	return p
}

func TestCompare(t *testing.T) {
	for _, c := range []struct {
		a, b []sortkey.Part
		want int
	}{
		{nil, nil, 0},
		{nil, []sortkey.Part{}, 0},
		{[]sortkey.Part{}, nil, 0},
		// A list that ends is ahead, whatever follows in the other one.
		{nil, []sortkey.Part{num(math.MinInt)}, -1},
		{nil, []sortkey.Part{txt("")}, -1},
		{[]sortkey.Part{}, []sortkey.Part{{}}, -1},
		{[]sortkey.Part{num(1)}, []sortkey.Part{num(1), num(-5)}, -1},
		{[]sortkey.Part{txt("a")}, []sortkey.Part{txt("a"), txt("")}, -1},
		{[]sortkey.Part{num(1), txt("a")}, []sortkey.Part{num(1), txt("a"), num(0), num(0)}, -1},
		// What is ahead of the end counts ahead of it.
		{[]sortkey.Part{num(1)}, []sortkey.Part{num(2), num(0)}, -1},
		{[]sortkey.Part{num(3)}, []sortkey.Part{num(2), num(9)}, 1},
		{[]sortkey.Part{txt("b")}, []sortkey.Part{txt("a"), num(1)}, 1},
		{[]sortkey.Part{txt("b")}, []sortkey.Part{num(1), num(1), num(1)}, 1},
		// The first parts that are not alike count.
		{[]sortkey.Part{num(1), num(9)}, []sortkey.Part{num(2), num(0)}, -1},
		{[]sortkey.Part{txt("a"), txt("z")}, []sortkey.Part{txt("b"), txt("")}, -1},
		{[]sortkey.Part{num(1), num(2), num(3)}, []sortkey.Part{num(1), num(2), num(4)}, -1},
		{[]sortkey.Part{txt("a"), num(2)}, []sortkey.Part{txt("a\x00"), num(1)}, -1},
		{[]sortkey.Part{txt("a"), txt("b")}, []sortkey.Part{txt("ab"), txt("")}, -1},
		{[]sortkey.Part{txt("a"), num(2)}, []sortkey.Part{txt("a"), num(1)}, 1},
		// A number is ahead of a text.
		{[]sortkey.Part{num(math.MaxInt)}, []sortkey.Part{txt("")}, -1},
		{[]sortkey.Part{num(0)}, []sortkey.Part{{}}, -1},
		{[]sortkey.Part{txt("a"), num(5), txt("z")}, []sortkey.Part{txt("a"), txt(""), num(0)}, -1},
		{[]sortkey.Part{num(5), txt("a")}, []sortkey.Part{txt("a"), num(5)}, -1},
		// Alike, though not in what does not count.
		{[]sortkey.Part{{Int: true, N: 3, S: "x"}}, []sortkey.Part{{Int: true, N: 3, S: "y"}}, 0},
		{[]sortkey.Part{{N: 3, S: "x"}}, []sortkey.Part{{N: 4, S: "x"}}, 0},
		{[]sortkey.Part{{Int: true, N: 3, S: "x"}, num(1)}, []sortkey.Part{{Int: true, N: 3, S: "a"}, num(2)}, -1},
		{[]sortkey.Part{{N: 9, S: "x"}, num(1)}, []sortkey.Part{{N: 4, S: "x"}, num(2)}, -1},
		{[]sortkey.Part{num(1), txt("a")}, []sortkey.Part{num(1), txt("a")}, 0},
		{[]sortkey.Part{txt("ä")}, []sortkey.Part{txt("z")}, 1},
	} {
		if got := sortkey.Compare(c.a, c.b); got != c.want {
			t.Errorf("Compare(%#v, %#v) = %d", c.a, c.b, got)
		}
		if got := sortkey.Compare(c.b, c.a); got != -c.want {
			t.Errorf("Compare(%#v, %#v) = %d", c.b, c.a, got)
		}
	}
}

// TestCompareIsAnOrder: of lists of any kinds each is as itself alone, and what is ahead of one is ahead of what that is ahead of.
func TestCompareIsAnOrder(t *testing.T) {
	r := rand.New(rand.NewSource(55))
	var l [][]sortkey.Part
	for range 300 {
		l = append(l, someParts(r, someKinds(r)))
	}
	slices.SortFunc(l, sortkey.Compare)
	for i, a := range l {
		for k, b := range l {
			got := sortkey.Compare(a, b)
			if got != -sortkey.Compare(b, a) || (got == 0) != slices.Equal(a, b) || got != 0 && got != cmp.Compare(i, k) {
				t.Fatalf("Compare(%#v, %#v) = %d", a, b, got)
			}
		}
	}
}

// TestOrder: of two lists whose parts are of the same kinds the one that is ahead has the lesser key.
func TestOrder(t *testing.T) {
	r := rand.New(rand.NewSource(56))
	for range 200_000 {
		kinds := someKinds(r)
		a, b := someParts(r, kinds), someParts(r, kinds)
		copy(b, a[:r.Intn(len(a)+1)])
		orderOfKeys(t, a, b)
		// A list that ends where the other one goes on: their parts are of the same kinds as far as both go.
		orderOfKeys(t, a[:r.Intn(len(a)+1)], b)
	}
}

// TestOrderOfAll goes over all pairs of short lists of the same kinds.
func TestOrderOfAll(t *testing.T) {
	var numbers, short, longer []sortkey.Part
	for _, c := range ints {
		numbers = append(numbers, num(c.n))
	}
	for _, s := range words("\x00\x01\xfe\xff", 2) {
		short = append(short, txt(s))
	}
	for _, s := range words("\x00\x01a\xfe\xff", 4) {
		longer = append(longer, txt(s))
	}
	for _, a := range longer {
		for _, b := range longer {
			orderOfKeys(t, []sortkey.Part{a}, []sortkey.Part{b})
		}
	}
	for _, sides := range [][2][]sortkey.Part{{numbers, short}, {short, numbers}, {short, short}} {
		var lists [][]sortkey.Part
		for _, first := range sides[0] {
			for _, second := range sides[1] {
				lists = append(lists, []sortkey.Part{first, second})
			}
		}
		for _, a := range lists {
			for _, b := range lists {
				orderOfKeys(t, a, b)
			}
		}
	}
}

// orderOfKeys ends the test, unless the keys of two lists lie to each other as the lists do; and no key begins with
// another one of as many parts.
func orderOfKeys(t *testing.T, a, b []sortkey.Part) {
	x, y := sortkey.Join(a...), sortkey.Join(b...)
	if strings.Compare(x, y) != sortkey.Compare(a, b) {
		t.Fatalf("Compare(%#v, %#v) = %d, but they are laid as %x, %x", a, b, sortkey.Compare(a, b), x, y)
	}
	if len(a) == len(b) && x != y && (strings.HasPrefix(x, y) || strings.HasPrefix(y, x)) {
		t.Fatalf("%#v and %#v are laid as %x, %x", a, b, x, y)
	}
}

func TestAfter(t *testing.T) {
	many := strings.Repeat("\xff", 1<<16)
	for _, c := range []struct {
		p, want string
		is      bool
	}{
		{"a", "b", true},
		{"ab", "ac", true},
		{"a\x00", "a\x01", true},
		{"\x00", "\x01", true},
		{"\x00\x00", "\x00\x01", true},
		{"a\x7f", "a\x80", true},
		{"a\xfe", "a\xff", true},
		{"\xfe", "\xff", true},
		{"\xff\xfe", "\xff\xff", true},
		{"ä", "\xc3\xa5", true},
		// A byte 255 at the end goes, and so do those ahead of it.
		{"a\xff", "b", true},
		{"a\xff\xff\xff", "b", true},
		{"ab\xff", "ac", true},
		{"\x00\xff", "\x01", true},
		{"\xfe\xff", "\xff", true},
		{"\xff\x00", "\xff\x01", true},
		{"\xff\x00\xff", "\xff\x01", true},
		{"\xff\xfe\xff", "\xff\xff", true},
		{"a\xffb", "a\xffc", true},
		{"a\xffb\xff", "a\xffc", true},
		{"a" + many, "b", true},
		{many + "a", many + "b", true},
		// Nothing is greater than all of them.
		{"", "", false},
		{"\xff", "", false},
		{"\xff\xff", "", false},
		{many, "", false},
	} {
		if got, is := sortkey.After(c.p); got != c.want || is != c.is {
			t.Errorf("After(%x) = %x, %v", c.p[:min(8, len(c.p))], got[:min(8, len(got))], is)
		}
	}
}

// TestAfterOfAll holds After of all short texts against many texts: it is greater than all that begin with p, and of
// those that are less than it, or of all, if there is none, each is exceeded or reached by one that begins with p.
func TestAfterOfAll(t *testing.T) {
	all := words("\x00\x01\x02ab\xfe\xff", 4)
	for _, p := range words("\x00\x01a\xfe\xff", 3) {
		afterAmong(t, p, all)
	}
	var single []string
	for b := range 256 {
		single = append(single, string([]byte{byte(b)}))
	}
	all = append(all, single...)
	for _, p := range single {
		afterAmong(t, p, all)
		afterAmong(t, "a"+p, all)
		afterAmong(t, p+"\xff", all)
	}
}

func afterAmong(t *testing.T, p string, all []string) {
	got, is := sortkey.After(p)
	if !is && got != "" {
		t.Fatalf("After(%x) = %x, false", p, got)
	}
	for _, s := range all {
		// No text of at most as many bytes as s lies between this one and all that begin with p.
		greatest := p + strings.Repeat("\xff", len(s)+1)
		if is && (strings.HasPrefix(s, p) && s >= got || greatest >= got) {
			t.Fatalf("After(%x) = %x, which is not greater than %x and %x", p, got, s, greatest)
		}
		if (!is || s < got) && s > greatest {
			t.Fatalf("After(%x) = %x, %v, though %x is greater than all, too", p, got, is, s)
		}
	}
}

// TestAfterOfKeys: between the key of a beginning and what is after it lie just the keys of the lists that begin so.
func TestAfterOfKeys(t *testing.T) {
	r := rand.New(rand.NewSource(57))
	for range 20_000 {
		kinds := someKinds(r) + "t"
		a, b := someParts(r, kinds), someParts(r, kinds)
		n := 1 + r.Intn(len(a))
		copy(b, a[:r.Intn(n+1)])
		from := sortkey.Join(a[:n]...)
		to, is := sortkey.After(from)
		key := sortkey.Join(b...)
		within := key >= from && (!is || key < to)
		if within != slices.Equal(a[:n], b[:n]) {
			t.Fatalf("%#v is laid as %x, %#v as %x; what is after is %x, %v", a[:n], from, b, key, to, is)
		}
	}
}

// TestListsStay: no call writes to a list it is given, and what is written to an answer is seen in no other one.
func TestListsStay(t *testing.T) {
	l := []sortkey.Part{{Int: true, N: 5, S: "x"}, {N: 5, S: "x"}, num(-1), txt("\x00")}
	was := slices.Clone(l)
	for n := range len(l) + 1 {
		sortkey.Join(l[:n]...)
		for k := range len(l) + 1 {
			sortkey.Compare(l[:n], l[k:])
		}
	}
	if !slices.Equal(l, was) {
		t.Errorf("%#v became %#v", was, l)
	}
	s := sortkey.Join(num(1), txt("a"))
	one, _ := sortkey.Split(s, "it")
	clear(one)
	_ = append(one[:1], num(9))
	if two, e := sortkey.Split(s, "it"); !slices.Equal(two, []sortkey.Part{num(1), txt("a")}) || e != api.OK {
		t.Error(two, e)
	}
}

// TestEndsEverywhere asks all calls for all short bytes, and at both ends of int: none panics, and an error comes alone.
func TestEndsEverywhere(t *testing.T) {
	for _, n := range []int{math.MinInt, math.MinInt + 1, -1, 0, 1, math.MaxInt - 1, math.MaxInt} {
		if s := sortkey.Int(n); len(s) != 8 {
			t.Errorf("Int(%d) = %x", n, s)
		}
		for _, m := range []int{math.MinInt, -1, 0, 1, math.MaxInt} {
			if got := sortkey.Compare([]sortkey.Part{num(n)}, []sortkey.Part{num(m)}); got != cmp.Compare(n, m) {
				t.Errorf("Compare(%d, %d) = %d", n, m, got)
			}
		}
	}
	all := words("\x00\x01it\xff", 4)
	for b := range 256 {
		for c := range 256 {
			all = append(all, string([]byte{byte(b), byte(c)}))
		}
	}
	for _, s := range all {
		sortkey.After(s)
		if text, rest, e := sortkey.TakeText(s); e != api.OK && (text != "" || rest != "") {
			t.Fatalf("TakeText(%x) = %x, %x, %d", s, text, rest, e)
		}
		if n, rest, e := sortkey.TakeInt(s); e != api.ErrEnd || n != 0 || rest != "" {
			t.Fatalf("TakeInt(%x) = %d, %x, %d", s, n, rest, e)
		}
		for _, kinds := range []string{"", "i", "t", "it", "ti", "tt", "x", s} {
			if l, e := sortkey.Split(s, kinds); e != api.OK && len(l) != 0 {
				t.Fatalf("Split(%x, %q) = %#v, %d", s, kinds, l, e)
			}
		}
		if got := sortkey.Compare([]sortkey.Part{txt(s)}, []sortkey.Part{num(0)}); got != 1 {
			t.Fatalf("Compare(%x, 0) = %d", s, got)
		}
	}
}
