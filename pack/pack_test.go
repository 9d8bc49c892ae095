package pack_test

import (
	"fmt"
	"math"
	"math/big"
	"math/rand"
	"slices"
	"strings"
	"testing"

	"erratum/api"
	"erratum/pack"
	"erratum/sketch"
)

// greatest is the greatest number that may be; least and most are those of numbers with a sign.
const (
	greatest = 1<<62 - 1
	least    = -1 << 61
	most     = 1<<61 - 1
)

// raw makes the writing of bytes short.
var raw = sketch.Raw

// slow lays a number by the words of the chapter, bit by bit; k is how many bytes are behind the first one.
func slow(k int, n *big.Int) string {
	head := strings.Repeat("1", k)
	if k < 8 {
		head += "0"
	}
	digits := n.Text(2)
	zeros := strings.Repeat("0", 8*(k+1)-len(head)-len(digits))
	all, ok := new(big.Int).SetString(head+zeros+digits, 2)
	if !ok {
		panic("no bits")
	}
	return string(all.FillBytes(make([]byte, k+1)))
}

// slowNum lays a number that may be by the words of the chapter.
func slowNum(n int) string {
	x := big.NewInt(int64(n))
	k := 0
	for k < 8 && x.Cmp(new(big.Int).Lsh(big.NewInt(1), uint(7*(k+1)))) >= 0 {
		k++
	}
	return slow(k, x)
}

// slowInt lays a number with a sign that may be by the words of the chapter.
func slowInt(n int) string {
	if n < 0 {
		return slowNum(-2*n - 1)
	}
	return slowNum(2 * n)
}

// laid are numbers with their bytes: both sides of each border at which one more byte is needed, and the ends of what may be.
var laid = []struct {
	n     int
	bytes string
}{
	{0, "00"},
	{1, "01"},
	{126, "7e"},
	{1<<7 - 1, "7f"},
	{1 << 7, "8080"},
	{1<<7 + 1, "8081"},
	{255, "80ff"},
	{256, "8100"},
	{1<<14 - 1, "bfff"},
	{1 << 14, "c04000"},
	{0x91a2b, "c91a2b"},
	{1<<21 - 1, "dfffff"},
	{1 << 21, "e0200000"},
	{1<<28 - 1, "efffffff"},
	{1 << 28, "f010000000"},
	{1<<35 - 1, "f7ffffffff"},
	{1 << 35, "f80800000000"},
	{1<<42 - 1, "fbffffffffff"},
	{1 << 42, "fc040000000000"},
	{1<<49 - 1, "fdffffffffffff"},
	{1 << 49, "fe02000000000000"},
	{0x12345678abcdef, "fe12345678abcdef"},
	{1<<56 - 1, "feffffffffffffff"},
	{1 << 56, "ff0100000000000000"},
	{0x123456789abcdef0, "ff123456789abcdef0"},
	{greatest - 1, "ff3ffffffffffffffe"},
	{greatest, "ff3fffffffffffffff"},
}

// signed are numbers with a sign, with their bytes.
var signed = []struct {
	n     int
	bytes string
}{
	{0, "00"},
	{-1, "01"},
	{1, "02"},
	{-2, "03"},
	{2, "04"},
	{63, "7e"}, {-64, "7f"}, {64, "8080"}, {-65, "8081"},
	{1<<7 - 1, "80fe"}, {-1 << 7, "80ff"}, {1 << 7, "8100"}, {-1<<7 - 1, "8101"}, {-1<<7 + 1, "80fd"},
	{1<<13 - 1, "bffe"}, {-1 << 13, "bfff"}, {1 << 13, "c04000"}, {-1<<13 - 1, "c04001"},
	{1<<20 - 1, "dffffe"}, {-1 << 20, "dfffff"}, {1 << 20, "e0200000"}, {-1<<20 - 1, "e0200001"},
	{1<<27 - 1, "effffffe"}, {-1 << 27, "efffffff"}, {1 << 27, "f010000000"}, {-1<<27 - 1, "f010000001"},
	{1<<34 - 1, "f7fffffffe"}, {-1 << 34, "f7ffffffff"}, {1 << 34, "f80800000000"}, {-1<<34 - 1, "f80800000001"},
	{1<<41 - 1, "fbfffffffffe"}, {-1 << 41, "fbffffffffff"}, {1 << 41, "fc040000000000"}, {-1<<41 - 1, "fc040000000001"},
	{1<<48 - 1, "fdfffffffffffe"}, {-1 << 48, "fdffffffffffff"}, {1 << 48, "fe02000000000000"}, {-1<<48 - 1, "fe02000000000001"},
	{1<<55 - 1, "fefffffffffffffe"}, {-1 << 55, "feffffffffffffff"}, {1 << 55, "ff0100000000000000"}, {-1<<55 - 1, "ff0100000000000001"},
	{1<<56 - 1, "ff01fffffffffffffe"}, {-1 << 56, "ff01ffffffffffffff"}, {1 << 56, "ff0200000000000000"},
	{most, "ff3ffffffffffffffe"},
	{least + 1, "ff3ffffffffffffffd"},
	{least, "ff3fffffffffffffff"},
}

// noNums are numbers that may not be, and noInts those with a sign.
var (
	noNums = []int{greatest + 1, greatest + 2, 1<<63 - 2, math.MaxInt, -1, -2, -128, -1 << 56, -1 << 62, math.MinInt + 1, math.MinInt}
	noInts = []int{most + 1, most + 2, greatest, greatest + 1, math.MaxInt, least - 1, least - 2, -1 << 62, math.MinInt + 1, math.MinInt}
)

// many answers numbers that may be: all up to a little above 2^14, some near each power of two, and some of each length.
func many() []int {
	var l []int
	for n := range 1<<14 + 300 {
		l = append(l, n)
	}
	for bit := 15; bit <= 62; bit++ {
		for d := -3; d <= 3; d++ {
			if n := 1<<bit + d; n >= 0 && n <= greatest {
				l = append(l, n)
			}
		}
	}
	r := rand.New(rand.NewSource(4))
	for range 20_000 {
		l = append(l, r.Intn(greatest)>>r.Intn(62))
	}
	return l
}

// behinds are texts that may stand behind what is taken.
var behinds = []string{"", "x", "\x00", "\x80", "\xff", "\x7f\x80", strings.Repeat("\xff", 20)}

func TestNum(t *testing.T) {
	for _, c := range laid {
		if got, e := pack.Num(c.n); got != raw(c.bytes) || e != api.OK {
			t.Errorf("Num(%d) = %x, %d, not %s", c.n, got, e, c.bytes)
		}
	}
	for _, n := range many() {
		if got, e := pack.Num(n); got != slowNum(n) || e != api.OK {
			t.Fatalf("Num(%d) = %x, %d, not %x", n, got, e, slowNum(n))
		}
	}
	for _, n := range noNums {
		if got, e := pack.Num(n); got != "" || e != api.ErrArg {
			t.Errorf("Num(%d) = %x, %d", n, got, e)
		}
	}
}

func TestInt(t *testing.T) {
	for _, c := range signed {
		if got, e := pack.Int(c.n); got != raw(c.bytes) || e != api.OK {
			t.Errorf("Int(%d) = %x, %d, not %s", c.n, got, e, c.bytes)
		}
	}
	for _, n := range many() {
		for _, n := range []int{n, -n, -n - 1} {
			if n < least || n > most {
				continue
			}
			if got, e := pack.Int(n); got != slowInt(n) || e != api.OK {
				t.Fatalf("Int(%d) = %x, %d, not %x", n, got, e, slowInt(n))
			}
		}
	}
	for _, n := range noInts {
		if got, e := pack.Int(n); got != "" || e != api.ErrArg {
			t.Errorf("Int(%d) = %x, %d", n, got, e)
		}
	}
}

func TestNums(t *testing.T) {
	var all []int
	var bytes string
	for _, c := range laid {
		all = append(all, c.n)
		bytes += raw(c.bytes)
	}
	for _, c := range []struct {
		l    []int
		want string
	}{
		{nil, ""},
		{[]int{}, ""},
		{[]int{0}, "\x00"},
		{[]int{128}, "\x80\x80"},
		{[]int{0, 0, 0}, "\x00\x00\x00"},
		{[]int{1, 128, 0}, "\x01\x80\x80\x00"},
		{[]int{greatest, 127}, raw("ff3fffffffffffffff 7f")},
		{all, bytes},
	} {
		if got, e := pack.Nums(c.l...); got != c.want || e != api.OK {
			t.Errorf("Nums(%v) = %x, %d", c.l, got, e)
		}
	}
	l := slices.Repeat([]int{5, 300}, 5000) // More than are ever taken at once.
	if got, e := pack.Nums(l...); got != strings.Repeat("\x05\x81\x2c", 5000) || e != api.OK {
		t.Errorf("Nums of %d numbers: %d bytes, %d", len(l), len(got), e)
	}
}

// TestNumsWithAWrongOne: a number that may not be, at any place, leaves nothing of those ahead of it.
func TestNumsWithAWrongOne(t *testing.T) {
	for _, wrong := range noNums {
		if got, e := pack.Nums(wrong); got != "" || e != api.ErrArg {
			t.Errorf("Nums(%d) = %x, %d", wrong, got, e)
		}
		for place := range 5 {
			l := slices.Insert([]int{1, 200, 0, greatest}, place, wrong)
			if got, e := pack.Nums(l...); got != "" || e != api.ErrArg {
				t.Errorf("Nums(%v) = %x, %d", l, got, e)
			}
		}
	}
}

// texts are texts with the bytes of their lengths: those that need one byte, two and three.
var texts = []struct{ text, long string }{
	{"", "00"},
	{"x", "01"},
	{"\x00", "01"},
	{"\xff\x80\x00", "03"},
	{"ä", "02"},
	{strings.Repeat("a", 126), "7e"},
	{strings.Repeat("\xff", 127), "7f"},
	{strings.Repeat("b", 128), "8080"},
	{strings.Repeat("\x00", 129), "8081"},
	{strings.Repeat("c", 1<<14-1), "bfff"},
	{strings.Repeat("d", 1<<14), "c04000"},
	{strings.Repeat("e", 1<<21-1), "dfffff"},
	{strings.Repeat("f", 1<<21), "e0200000"},
}

func TestText(t *testing.T) {
	for _, c := range texts {
		if got := pack.Text(c.text); got != raw(c.long)+c.text {
			t.Errorf("Text of %d bytes begins with %x", len(c.text), got[:min(4, len(got))])
		}
	}
}

// forms are bytes that are no number's: with more bytes than would do, or above what may be.
var forms = []string{
	"8000", "8001", "807f",
	"c00000", "c00001", "c000ff", "c03fff",
	"e0000000", "e01fffff",
	"f000000000", "f00fffffff",
	"f80000000000", "f807ffffffff",
	"fc000000000000", "fc03ffffffffff",
	"fe00000000000000", "fe01ffffffffffff",
	"ff0000000000000000", "ff0000000000000001", "ff000000000000007f", "ff00ffffffffffffff",
	"ff4000000000000000", "ff4000000000000001", "ff7fffffffffffffff",
	"ff8000000000000000", "ff8000000000000001", "ffc000000000000000", "ffffffffffffffff00", "ffffffffffffffffff",
}

func TestTakeNum(t *testing.T) {
	for _, c := range laid {
		for _, behind := range behinds {
			if n, rest, e := pack.TakeNum(raw(c.bytes) + behind); n != c.n || rest != behind || e != api.OK {
				t.Errorf("TakeNum(%s %x) = %d, %x, %d", c.bytes, behind, n, rest, e)
			}
		}
	}
	for _, c := range signed {
		for _, behind := range behinds {
			if n, rest, e := pack.TakeInt(raw(c.bytes) + behind); n != c.n || rest != behind || e != api.OK {
				t.Errorf("TakeInt(%s %x) = %d, %x, %d", c.bytes, behind, n, rest, e)
			}
		}
	}
}

// refused tells whether all calls that take a number, or something that begins with one, answer an error and nothing else.
func refused(s string, want api.Errno) error {
	if n, rest, e := pack.TakeNum(s); n != 0 || rest != "" || e != want {
		return fmt.Errorf("TakeNum(%x) = %d, %x, %d", s, n, rest, e)
	}
	if n, rest, e := pack.TakeInt(s); n != 0 || rest != "" || e != want {
		return fmt.Errorf("TakeInt(%x) = %d, %x, %d", s, n, rest, e)
	}
	for _, k := range []int{1, 2, 1000} {
		if l, rest, e := pack.TakeNums(s, k); len(l) != 0 || rest != "" || e != want {
			return fmt.Errorf("TakeNums(%x, %d) = %v, %x, %d", s, k, l, rest, e)
		}
	}
	for _, most := range []int{math.MinInt, -1, 0, 1, 100, math.MaxInt} {
		if text, rest, e := pack.TakeText(s, most); text != "" || rest != "" || e != want {
			return fmt.Errorf("TakeText(%x, %d) = %x, %x, %d", s, most, text, rest, e)
		}
	}
	return nil
}

// TestTakeNumOfWrongBytes: what is no number's bytes is told as that, whatever is behind; and as an end, as long as bytes lack.
func TestTakeNumOfWrongBytes(t *testing.T) {
	for _, form := range forms {
		s := raw(form)
		for _, behind := range behinds {
			if err := refused(s+behind, api.ErrForm); err != nil {
				t.Error(err)
			}
		}
		for n := range s {
			if err := refused(s[:n], api.ErrEnd); err != nil {
				t.Error(err)
			}
		}
	}
	for _, c := range laid {
		s := raw(c.bytes)
		for n := range s {
			if err := refused(s[:n], api.ErrEnd); err != nil {
				t.Error(err)
			}
		}
	}
}

func TestTakeNumOfNothing(t *testing.T) {
	if err := refused("", api.ErrEnd); err != nil {
		t.Error(err)
	}
}

// TestTakeOfOneByte goes over all texts of one byte: those below 80 are numbers, the others begin longer ones.
func TestTakeOfOneByte(t *testing.T) {
	for b := range 256 {
		s := string([]byte{byte(b)})
		if b >= 0x80 {
			if err := refused(s, api.ErrEnd); err != nil {
				t.Error(err)
			}
			continue
		}
		if n, rest, e := pack.TakeNum(s); n != b || rest != "" || e != api.OK {
			t.Errorf("TakeNum(%x) = %d, %x, %d", s, n, rest, e)
		}
		want := b / 2
		if b%2 == 1 {
			want = -(b + 1) / 2
		}
		if n, rest, e := pack.TakeInt(s); n != want || rest != "" || e != api.OK {
			t.Errorf("TakeInt(%x) = %d, %x, %d", s, n, rest, e)
		}
		if l, rest, e := pack.TakeNums(s, 1); !slices.Equal(l, []int{b}) || rest != "" || e != api.OK {
			t.Errorf("TakeNums(%x, 1) = %v, %x, %d", s, l, rest, e)
		}
		if l, rest, e := pack.TakeNums(s, 2); len(l) != 0 || rest != "" || e != api.ErrEnd {
			t.Errorf("TakeNums(%x, 2) = %v, %x, %d", s, l, rest, e)
		}
		wantE := api.ErrEnd
		if b == 0 {
			wantE = api.OK
		}
		if text, rest, e := pack.TakeText(s, 127); text != "" || rest != "" || e != wantE {
			t.Errorf("TakeText(%x, 127) = %x, %x, %d", s, text, rest, e)
		}
	}
}

// TestTakeNumByFirstByte: each first byte, with the least and the greatest bytes behind it, is told by the words of the chapter.
func TestTakeNumByFirstByte(t *testing.T) {
	for b := range 256 {
		k := 0
		for k < 8 && b&(0x80>>k) != 0 {
			k++
		}
		for _, fill := range []string{"\x00", "\x01", "\x7f", "\x80", "\xff"} {
			s := string([]byte{byte(b)}) + strings.Repeat(fill, k)
			bits := new(big.Int).SetBytes([]byte(s))
			bits.SetBit(bits, 8*k+8, 0)
			for i := range k { // The highest bits are the first byte's ones.
				bits.SetBit(bits, 8*k+7-i, 0)
			}
			may := bits.IsInt64() && bits.Int64() <= greatest && slowNum(int(bits.Int64())) == s
			n, rest, e := pack.TakeNum(s + "x")
			if may && (int64(n) != bits.Int64() || rest != "x" || e != api.OK) {
				t.Errorf("TakeNum(%x) = %d, %x, %d, not %d", s, n, rest, e, bits)
			}
			if !may && (n != 0 || rest != "" || e != api.ErrForm) {
				t.Errorf("TakeNum(%x) = %d, %x, %d", s, n, rest, e)
			}
		}
	}
}

func TestTakeNums(t *testing.T) {
	thousand := strings.Repeat("\x07", 1000)
	for _, c := range []struct {
		s    string
		k    int
		want []int
		rest string
		e    api.Errno
	}{
		{"", 0, nil, "", api.OK},
		{"abc", 0, nil, "abc", api.OK},
		{"\x80\x01", 0, nil, "\x80\x01", api.OK},
		{"\xff", 0, nil, "\xff", api.OK},
		{"\x05", 1, []int{5}, "", api.OK},
		{"\x05\x06", 1, []int{5}, "\x06", api.OK},
		{"\x05\x06", 2, []int{5, 6}, "", api.OK},
		{"\x05\x80\x80\x00x", 3, []int{5, 128, 0}, "x", api.OK},
		{raw("ff3fffffffffffffff 7f 80"), 2, []int{greatest, 127}, "\x80", api.OK},
		{"\x05\x80\x01", 1, []int{5}, "\x80\x01", api.OK},
		{thousand, 1000, slices.Repeat([]int{7}, 1000), "", api.OK},
		{thousand + "\x07\xff", 1000, slices.Repeat([]int{7}, 1000), "\x07\xff", api.OK},
		{thousand, 999, slices.Repeat([]int{7}, 999), "\x07", api.OK},
		// There are fewer than k.
		{"", 1, nil, "", api.ErrEnd},
		{"", 1000, nil, "", api.ErrEnd},
		{"\x05\x06", 3, nil, "", api.ErrEnd},
		{"\x05\x80", 2, nil, "", api.ErrEnd},
		{thousand[1:], 1000, nil, "", api.ErrEnd},
		// One of them is none: the first, one in the middle, the last.
		{"\x80\x01\x05\x06", 3, nil, "", api.ErrForm},
		{"\x05\x80\x01\x06", 3, nil, "", api.ErrForm},
		{"\x05\x06\x80\x01", 3, nil, "", api.ErrForm},
		// The first one's error.
		{"\x05\x80\x01\xff", 3, nil, "", api.ErrForm},
		{"\x05\x80\x01", 9, nil, "", api.ErrForm},
		{"\x05\xff\x80\x01", 3, nil, "", api.ErrEnd},
		// How many there are is held ahead of what they are.
		{"", -1, nil, "", api.ErrArg},
		{"\x05", -1, nil, "", api.ErrArg},
		{"\x80\x01", -1, nil, "", api.ErrArg},
		{"\x80\x01", 1001, nil, "", api.ErrArg},
		{"", 1001, nil, "", api.ErrArg},
		{thousand + thousand, 1001, nil, "", api.ErrArg},
		{thousand + thousand, math.MaxInt, nil, "", api.ErrArg},
		{thousand + thousand, math.MinInt, nil, "", api.ErrArg},
	} {
		l, rest, e := pack.TakeNums(c.s, c.k)
		if !slices.Equal(l, c.want) || rest != c.rest || e != c.e {
			t.Errorf("TakeNums(%x, %d) = %v, %x, %d", c.s, c.k, l, rest, e)
		}
	}
}

func TestTakeText(t *testing.T) {
	long := strings.Repeat("y", 300) // Its length is laid as two bytes.
	endless := raw("ff3fffffffffffffff")
	for _, c := range []struct {
		s          string
		most       int
		text, rest string
		e          api.Errno
	}{
		{"\x00", 0, "", "", api.OK},
		{"\x00x", 0, "", "x", api.OK},
		{"\x00x", 5, "", "x", api.OK},
		{"\x03abc", 3, "abc", "", api.OK},
		{"\x03abcde", 3, "abc", "de", api.OK},
		{"\x03abc", 4, "abc", "", api.OK},
		{"\x03\xff\x00\x80\x80", 3, "\xff\x00\x80", "\x80", api.OK},
		{"\x03abc", math.MaxInt, "abc", "", api.OK},
		{"\x81\x2c" + long, 300, long, "", api.OK},
		{"\x81\x2c" + long + "z", 301, long, "z", api.OK},
		// There are more than most.
		{"\x03abc", 2, "", "", api.ErrBig},
		{"\x03abc", 0, "", "", api.ErrBig},
		{"\x03abc", -1, "", "", api.ErrBig},
		{"\x03abc", math.MinInt, "", "", api.ErrBig},
		{"\x00", -1, "", "", api.ErrBig},
		{"\x00x", math.MinInt, "", "", api.ErrBig},
		{"\x81\x2c" + long, 299, "", "", api.ErrBig},
		// Bytes lack.
		{"\x03ab", 3, "", "", api.ErrEnd},
		{"\x03", 3, "", "", api.ErrEnd},
		{"\x01", 1, "", "", api.ErrEnd},
		{"\x81\x2c" + long[1:], 300, "", "", api.ErrEnd},
		{endless + "abc", greatest, "", "", api.ErrEnd},
		{endless, math.MaxInt, "", "", api.ErrEnd},
		// More than most, and bytes lack.
		{"\x03ab", 2, "", "", api.ErrBig},
		{"\x03", -1, "", "", api.ErrBig},
		{endless, greatest - 1, "", "", api.ErrBig},
		// The length is none; what it would be counts no more.
		{"", 0, "", "", api.ErrEnd},
		{"", -1, "", "", api.ErrEnd},
		{"\x81", 0, "", "", api.ErrEnd},
		{"\x80\x03abc", 3, "", "", api.ErrForm},
		{"\x80\x03abc", 2, "", "", api.ErrForm},
		{"\x80\x03", 3, "", "", api.ErrForm},
		{raw("ff4000000000000000"), 3, "", "", api.ErrForm},
	} {
		text, rest, e := pack.TakeText(c.s, c.most)
		if text != c.text || rest != c.rest || e != c.e {
			t.Errorf("TakeText(%x, %d) = %x, %x, %d", c.s, c.most, text, rest, e)
		}
	}
	for _, c := range texts {
		n := len(c.text)
		for _, behind := range behinds {
			if text, rest, e := pack.TakeText(raw(c.long)+c.text+behind, n); text != c.text || rest != behind || e != api.OK {
				t.Errorf("TakeText of %d bytes, %x behind: %d bytes, %x, %d", n, behind, len(text), rest, e)
			}
		}
		if text, rest, e := pack.TakeText(raw(c.long)+c.text, n-1); text != "" || rest != "" || e != api.ErrBig {
			t.Errorf("TakeText of %d bytes, one less may be: %d bytes, %x, %d", n, len(text), rest, e)
		}
		if n == 0 {
			continue
		}
		if text, rest, e := pack.TakeText(raw(c.long)+c.text[1:], n); text != "" || rest != "" || e != api.ErrEnd {
			t.Errorf("TakeText of %d bytes, one lacks: %d bytes, %x, %d", n, len(text), rest, e)
		}
	}
}

// TestOrder: of two numbers the lesser one's bytes are less, and neither begins with the other one's.
func TestOrder(t *testing.T) {
	l := many()
	slices.Sort(l)
	l = slices.Compact(l)
	// What lies between a text and one that begins with it begins with it, too: so what holds of neighbours holds of all.
	for i := 1; i < len(l); i++ {
		if fault := faultOfOrder(l[i-1], l[i]); fault != nil {
			t.Fatal(fault)
		}
	}
	for _, a := range laid {
		for _, b := range laid {
			if a.n >= b.n {
				continue
			}
			if fault := faultOfOrder(a.n, b.n); fault != nil {
				t.Error(fault)
			}
		}
	}
}

func faultOfOrder(a, b int) error {
	x, _ := pack.Num(a)
	y, _ := pack.Num(b)
	if x >= y || strings.HasPrefix(x, y) || strings.HasPrefix(y, x) {
		return fmt.Errorf("%d is laid as %x, %d as %x", a, x, b, y)
	}
	return nil
}

// TestOrderOfLists: lists of numbers have the order of their bytes, too.
func TestOrderOfLists(t *testing.T) {
	r := rand.New(rand.NewSource(44))
	for range 20_000 {
		a, b := someNums(r), someNums(r)
		copy(b, a[:min(len(a), len(b), r.Intn(3))])
		x, _ := pack.Nums(a...)
		y, _ := pack.Nums(b...)
		if strings.Compare(x, y) != slices.Compare(a, b) {
			t.Fatalf("%v is laid as %x, %v as %x", a, x, b, y)
		}
	}
}

// someNums answers up to seven numbers of any length.
func someNums(r *rand.Rand) []int {
	l := make([]int, r.Intn(8))
	for i := range l {
		l[i] = r.Intn(greatest) >> r.Intn(62)
	}
	return l
}

// TestAgain: what was laid is taken as it was, whatever is behind it.
func TestAgain(t *testing.T) {
	for _, n := range many() {
		s, _ := pack.Num(n)
		if got, rest, e := pack.TakeNum(s + "\xff"); got != n || rest != "\xff" || e != api.OK {
			t.Fatalf("%d is laid as %x and taken as %d, %x, %d", n, s, got, rest, e)
		}
		for _, n := range []int{n, -n, -n - 1} {
			if n < least || n > most {
				continue
			}
			s, _ := pack.Int(n)
			if got, rest, e := pack.TakeInt(s + "\x80"); got != n || rest != "\x80" || e != api.OK {
				t.Fatalf("%d is laid as %x and taken as %d, %x, %d", n, s, got, rest, e)
			}
		}
	}
	r := rand.New(rand.NewSource(45))
	for range 5000 {
		l := someNums(r)
		s, _ := pack.Nums(l...)
		if got, rest, e := pack.TakeNums(s+"x", len(l)); !slices.Equal(got, l) || rest != "x" || e != api.OK {
			t.Fatalf("%v is laid as %x and taken as %v, %x, %d", l, s, got, rest, e)
		}
	}
	for _, c := range texts {
		if text, rest, e := pack.TakeText(pack.Text(c.text)+"x", len(c.text)); text != c.text || rest != "x" || e != api.OK {
			t.Fatalf("a text of %d bytes is taken with %d, %x, %d", len(c.text), len(text), rest, e)
		}
	}
}

// TestLaidAgain: what is taken of any bytes is laid as the same ones.
func TestLaidAgain(t *testing.T) {
	for a := range 256 {
		for b := range 256 {
			for _, behind := range []string{"", "\x00", "\x01\x80", "\x20\x00\x00\x00\x00\x00\x00", "\xff\xff\xff\xff\xff\xff\xff\xff\xff"} {
				if fault := faultOfAgain(string([]byte{byte(a), byte(b)}) + behind); fault != nil {
					t.Fatal(fault)
				}
			}
		}
	}
	r := rand.New(rand.NewSource(46))
	for range 50_000 {
		s := make([]byte, r.Intn(24))
		for i := range s {
			s[i] = byte(r.Intn(256))
			if r.Intn(4) == 0 {
				s[i] = "\x00\x01\x7f\x80\xc0\xfe\xff"[r.Intn(7)]
			}
		}
		if fault := faultOfAgain(string(s)); fault != nil {
			t.Fatal(fault)
		}
	}
}

func faultOfAgain(s string) error {
	if n, rest, e := pack.TakeNum(s); e == api.OK {
		if again, f := pack.Num(n); again+rest != s || f != api.OK {
			return fmt.Errorf("TakeNum(%x) = %d, %x, laid again %x, %d", s, n, rest, again, f)
		}
	}
	if n, rest, e := pack.TakeInt(s); e == api.OK {
		if again, f := pack.Int(n); again+rest != s || f != api.OK {
			return fmt.Errorf("TakeInt(%x) = %d, %x, laid again %x, %d", s, n, rest, again, f)
		}
	}
	for k := range 4 {
		l, rest, e := pack.TakeNums(s, k)
		if e != api.OK {
			continue
		}
		if again, f := pack.Nums(l...); len(l) != k || again+rest != s || f != api.OK {
			return fmt.Errorf("TakeNums(%x, %d) = %v, %x, laid again %x, %d", s, k, l, rest, again, f)
		}
	}
	if text, rest, e := pack.TakeText(s, 100); e == api.OK && pack.Text(text)+rest != s {
		return fmt.Errorf("TakeText(%x) = %x, %x, laid again %x", s, text, rest, pack.Text(text))
	}
	return nil
}

// TestListsStay: no call writes to a list it is given, and what is written to an answer is seen in no other one.
func TestListsStay(t *testing.T) {
	l := []int{1, 200, -1, 300}
	was := slices.Clone(l)
	for n := range len(l) + 1 {
		pack.Nums(l[:n]...)
	}
	if !slices.Equal(l, was) {
		t.Errorf("%v became %v", was, l)
	}
	one, _, _ := pack.TakeNums("\x01\x02\x03", 3)
	clear(one)
	_ = append(one[:1], 9, 9)
	if two, _, _ := pack.TakeNums("\x01\x02\x03", 3); !slices.Equal(two, []int{1, 2, 3}) {
		t.Error(two)
	}
}

// TestEndsEverywhere asks all calls at the ends of all that may be given to them: none panics.
func TestEndsEverywhere(t *testing.T) {
	ends := []int{
		math.MinInt, math.MinInt + 1, -1 << 62, least - 1, least, least + 1, -1000, -1,
		0, 1, 127, 128, 999, 1000, 1001, most - 1, most, most + 1, greatest, greatest + 1, math.MaxInt - 1, math.MaxInt,
	}
	for _, a := range ends {
		if s, e := pack.Num(a); (e == api.OK) != (a >= 0 && a <= greatest) || (e == api.OK) != (s != "") {
			t.Errorf("Num(%d) = %x, %d", a, s, e)
		}
		if s, e := pack.Int(a); (e == api.OK) != (a >= least && a <= most) || (e == api.OK) != (s != "") {
			t.Errorf("Int(%d) = %x, %d", a, s, e)
		}
		for _, b := range ends {
			pack.Nums(a, b)
		}
		for _, s := range append(slices.Clone(forms), "00", "03616263", "ff3fffffffffffffff", strings.Repeat("ff", 1200), strings.Repeat("00", 1200)) {
			for n := range len(s)/2 + 1 {
				pack.TakeNums(raw(s)[:n], a)
				pack.TakeText(raw(s)[:n], a)
			}
		}
	}
}
