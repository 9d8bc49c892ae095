package crc_test

import (
	"hash/crc32"
	"math"
	"math/rand"
	"slices"
	"strings"
	"testing"

	"erratum/api"
	"erratum/crc"
	"erratum/sketch"
)

const low = 1<<32 - 1 // the lowest 32 bits

// raw makes the writing of bytes short.
var raw = sketch.Raw

// bitsOf answers the bits of a text by the words of the chapter: byte by byte, of each the lowest first.
func bitsOf(s string) []int {
	var bits []int
	for _, b := range []byte(s) {
		for range 8 {
			bits = append(bits, int(b)%2)
			b /= 2
		}
	}
	return bits
}

// slowSteps answers the state behind a step with each bit of a text, by the words of the chapter.
func slowSteps(state int, s string) int {
	for _, bit := range bitsOf(s) {
		unlike := state%2 != bit
		state /= 2
		if unlike {
			state ^= 0x82F63B78
		}
	}
	return state
}

// slowSum begins with the state whose 32 bits are all 1.
func slowSum(s string) int {
	return slowSteps(low, s) ^ low
}

// slowAdd begins with the state of the text whose sum is sum, before its bits were turned.
func slowAdd(sum int, s string) int {
	return slowSteps(sum&low^low, s) ^ low
}

// laid answers the four bytes of a sum, the lowest first.
func laid(sum int) string {
	return string([]byte{byte(sum), byte(sum >> 8), byte(sum >> 16), byte(sum >> 24)})
}

// turned answers a text of which those bits are turned that pattern has, its lowest at the given bit.
func turned(s string, at int, pattern uint64) string {
	b := []byte(s)
	for i := range 64 {
		if pattern>>i&1 == 1 {
			b[(at+i)/8] ^= 1 << ((at + i) % 8)
		}
	}
	return string(b)
}

// someText answers a text of so many bytes, whatever they are.
func someText(r *rand.Rand, n int) string {
	b := make([]byte, n)
	r.Read(b)
	return string(b)
}

// words answers all texts of up to so many bytes of an alphabet.
func words(alphabet string, most int) []string { return slices.Collect(sketch.Short(alphabet, most)) }

// texts answers texts of many kinds: the empty one, each byte alone and beside others, all short ones of the bytes at the
// ends and in the middle, and longer ones.
func texts() []string {
	all := words("\x00\x7f\x80\xff", 5)
	for b := range 256 {
		one := string([]byte{byte(b)})
		all = append(all, one, one+one, "a"+one, one+"a", "\xff"+one+"\x00", strings.Repeat(one, 64))
	}
	for _, n := range []int{3, 4, 5, 31, 32, 33, 64, 1000} {
		for _, b := range []string{"\x00", "\x7f", "\x80", "\xff"} {
			all = append(all, strings.Repeat(b, n))
		}
	}
	r := rand.New(rand.NewSource(61))
	for n := range 200 {
		all = append(all, someText(r, n))
	}
	return all
}

// sums are numbers whose lowest 32 bits are taken: at both ends of 32 bits, between them, beyond them and below 0.
var sums = []int{
	0, 1, 2, 0x7f, 0x80, 0xff, 0x100, 0xe3069283, 0x7fffffff, 0x80000000, 0x82f63b78, low - 1, low,
	low + 1, low + 2, 1<<33 - 1, 1 << 33, 1<<40 + 7, 1<<62 + 0x12345678, math.MaxInt - 1, math.MaxInt,
	-1, -2, -0x80, -0x7fffffff, -0x80000000, -0x80000001, -low, -low - 1, -low - 2, -1 << 40, math.MinInt, math.MinInt + 1,
}

// someSums answers those sums, and others of any length, above and below 0.
func someSums() []int {
	all := append([]int(nil), sums...)
	for bit := range 64 {
		all = append(all, 1<<bit, -(1 << bit), 1<<bit-1)
	}
	r := rand.New(rand.NewSource(62))
	for range 500 {
		all = append(all, int(r.Uint64())>>r.Intn(64))
	}
	return all
}

func TestSumOfKnown(t *testing.T) {
	rising, falling := make([]byte, 32), make([]byte, 32)
	for i := range 32 {
		rising[i], falling[31-i] = byte(i), byte(i)
	}
	for _, c := range []struct {
		s    string
		want int
	}{
		{"", 0},
		{"123456789", 0xe3069283},
		{"a", 0xc1d04330},
		{"\x00", 0x527d5351},
		{"\xff", 0xff000000},
		{"\xff\xff\xff\xff", 0xffffffff},
		{"\x00\x00\x00\x00", 0x48674bc7},
		{strings.Repeat("\x00", 32), 0x8a9136aa},
		{strings.Repeat("\xff", 32), 0x62a8ab43},
		{string(rising), 0x46dd794e},
		{string(falling), 0x113fdb5c},
		{"The quick brown fox jumps over the lazy dog", 0x22620404},
	} {
		if got := crc.Sum(c.s); got != c.want {
			t.Errorf("Sum(%x) = %x, not %x", c.s, got, c.want)
		}
	}
}

func TestSum(t *testing.T) {
	for _, s := range texts() {
		got, want := crc.Sum(s), slowSum(s)
		if got != want {
			t.Fatalf("Sum(%x) = %x, not %x", s, got, want)
		}
		if got < 0 || got > low {
			t.Fatalf("Sum(%x) = %x is not of 32 bits", s, got)
		}
	}
}

// TestSumOfLong holds sums of long texts against those of another program.
func TestSumOfLong(t *testing.T) {
	r := rand.New(rand.NewSource(63))
	table := crc32.MakeTable(crc32.Castagnoli)
	for _, s := range []string{
		someText(r, 1<<12+1), someText(r, 1<<20), someText(r, 1<<22+3),
		strings.Repeat("\x00", 1<<20), strings.Repeat("\xff", 1<<20), strings.Repeat("\x7f\x80", 1<<19),
	} {
		want := int(crc32.Checksum([]byte(s), table))
		if got := crc.Sum(s); got != want {
			t.Errorf("Sum of %d bytes = %x, not %x", len(s), got, want)
		}
		if text, e := crc.Open(crc.Seal(s)); text != s || e != api.OK {
			t.Errorf("Open of %d bytes that were sealed: %d bytes, %d", len(s), len(text), e)
		}
	}
}

func TestAdd(t *testing.T) {
	some := append(words("\x00\x7f\x80\xff", 2), "a", "123456789", strings.Repeat("\xfe\x01", 40))
	for _, sum := range someSums() {
		for _, s := range some {
			got, want := crc.Add(sum, s), slowAdd(sum, s)
			if got != want {
				t.Fatalf("Add(%x, %x) = %x, not %x", sum, s, got, want)
			}
			if got < 0 || got > low {
				t.Fatalf("Add(%x, %x) = %x is not of 32 bits", sum, s, got)
			}
		}
		if got := crc.Add(sum, ""); got != sum&low {
			t.Fatalf("Add(%x, \"\") = %x", sum, got)
		}
	}
}

// TestAddLooksAtLowest: of a sum no more than its lowest 32 bits count.
func TestAddLooksAtLowest(t *testing.T) {
	for _, a := range []string{"", "a", "123456789", "\x00\x7f\x80\xff"} {
		sum := crc.Sum(a)
		for _, more := range []int{1 << 32, 5 << 32, 1 << 62, -1 << 32, -7 << 32, math.MinInt} {
			if got := crc.Add(sum+more, "deed"); got != slowSum(a+"deed") {
				t.Errorf("Add(%x, deed) = %x, not %x", sum+more, got, slowSum(a+"deed"))
			}
		}
	}
}

// TestParts cuts texts at every place, and some into all of their bytes.
func TestParts(t *testing.T) {
	for _, s := range texts() {
		want := crc.Sum(s)
		each := 0
		for i := range len(s) + 1 {
			if got := crc.Add(crc.Sum(s[:i]), s[i:]); got != want {
				t.Fatalf("%x cut at %d: %x, not %x", s, i, got, want)
			}
			if i > 0 {
				each = crc.Add(each, s[i-1:i])
			}
		}
		if each != want {
			t.Fatalf("%x byte by byte: %x, not %x", s, each, want)
		}
	}
}

// TestLinear: three texts of one length.
func TestLinear(t *testing.T) {
	check := func(a, b, c string) {
		t.Helper()
		xor := make([]byte, len(a))
		for i := range len(a) {
			xor[i] = a[i] ^ b[i] ^ c[i]
		}
		if got, want := crc.Sum(a)^crc.Sum(b)^crc.Sum(c), crc.Sum(string(xor)); got != want {
			t.Fatalf("%x, %x, %x: %x, not %x", a, b, c, got, want)
		}
	}
	ends := []string{"\x00", "\x01", "\x7f", "\x80", "\xff"}
	for _, a := range ends {
		for _, b := range ends {
			for _, c := range ends {
				check(a, b, c)
				check(a+b, b+c, c+a)
				check(a+a+b+b+c, c+a+c+b+b, b+a+b+c+a)
			}
		}
	}
	r := rand.New(rand.NewSource(65))
	for n := range 300 {
		check(someText(r, n), someText(r, n), someText(r, n))
	}
}

func TestSeal(t *testing.T) {
	for _, c := range []struct{ s, want string }{
		{"", "00000000"},
		{"\xff\xff\xff\xff", "ffffffff ffffffff"},
		{"a", "61 3043d0c1"},
		{"123456789", "313233343536373839 839206e3"},
	} {
		if got := crc.Seal(c.s); got != raw(c.want) {
			t.Errorf("Seal(%x) = %x, not %s", c.s, got, c.want)
		}
	}
}

func TestSealAndOpen(t *testing.T) {
	for _, s := range texts() {
		sealed := crc.Seal(s)
		if sealed != s+laid(slowSum(s)) {
			t.Fatalf("Seal(%x) = %x, not with %x", s, sealed, slowSum(s))
		}
		if got, e := crc.Open(sealed); got != s || e != api.OK {
			t.Fatalf("Open(%x) = %x, %d", sealed, got, e)
		}
		// What is sealed twice is opened twice.
		if got, e := crc.Open(crc.Seal(sealed)); got != sealed || e != api.OK {
			t.Fatalf("Open of %x, sealed again: %x, %d", sealed, got, e)
		}
	}
}

func TestOpenOfTooFew(t *testing.T) {
	for _, s := range words("\x00\x01\x7f\x80\xff", 3) {
		if got, e := crc.Open(s); got != "" || e != api.ErrEnd {
			t.Errorf("Open(%x) = %x, %d", s, got, e)
		}
	}
	for b := range 256 {
		if got, e := crc.Open(string([]byte{byte(b)})); got != "" || e != api.ErrEnd {
			t.Errorf("Open(%x) = %x, %d", b, got, e)
		}
	}
}

// TestOpenOfFour: of all four bytes just those of the empty text's sum are opened.
func TestOpenOfFour(t *testing.T) {
	four := 0
	for _, s := range words("\x00\x01\x7f\x80\xff", 4) {
		if len(s) != 4 {
			continue
		}
		four++
		want := api.ErrSum
		if s == "\x00\x00\x00\x00" {
			want = api.OK
		}
		if got, e := crc.Open(s); got != "" || e != want {
			t.Errorf("Open(%x) = %x, %d, not %d", s, got, e, want)
		}
	}
	if four != 625 {
		t.Error(four)
	}
}

// TestOpenOfAnotherSum: the sum of the text is opened alone, and with its lowest byte first alone.
func TestOpenOfAnotherSum(t *testing.T) {
	for _, s := range []string{"", "a", "deed", "123456789", strings.Repeat("\x00", 60)} {
		for _, sum := range someSums() {
			got, e := crc.Open(s + laid(sum))
			if sum&low == slowSum(s) {
				if got != s || e != api.OK {
					t.Errorf("Open(%x %x) = %x, %d", s, laid(sum), got, e)
				}
			} else if got != "" || e != api.ErrSum {
				t.Errorf("Open(%x %x) = %x, %d", s, laid(sum), got, e)
			}
		}
	}
	for _, wrong := range []string{
		"313233343536373839 e3069283", // the highest byte first
		"313233343536373839 7c6df91c", // the state, not turned
		"839206e3 313233343536373839", // ahead of the text
		"313233343536373839 839206",   // a byte less
		"313233343536373839 839206e3 00",
		"00 313233343536373839 839206e3",
	} {
		if got, e := crc.Open(raw(wrong)); got != "" || e != api.ErrSum {
			t.Errorf("Open(%s) = %x, %d", wrong, got, e)
		}
	}
}

// patterns answers what may be turned within 32 bits in a row, its lowest bit first: each bit alone, each two, each row,
// and others of any length.
func patterns() []uint64 {
	all := []uint64{1}
	for n := 2; n <= 32; n++ {
		all = append(all, 1|1<<(n-1), 1<<n-1)
	}
	r := rand.New(rand.NewSource(66))
	for range 100 {
		all = append(all, r.Uint64()>>32>>r.Intn(32)|1)
	}
	return all
}

// TestBursts turns bits within 32 in a row at every place of sealed texts: at the front, in the middle, across the border
// of the text and its sum, and in the sum.
func TestBursts(t *testing.T) {
	r := rand.New(rand.NewSource(67))
	bursts := patterns()
	for _, s := range []string{"", "\x00", "a", "deed", "123456789", strings.Repeat("\xff", 20), someText(r, 60)} {
		sealed := crc.Seal(s)
		bits := 8 * len(sealed)
		for at := range bits {
			for _, p := range bursts {
				if at+32 > bits && p>>(bits-at) != 0 {
					continue
				}
				wrong := turned(sealed, at, p)
				if got, e := crc.Open(wrong); got != "" || e != api.ErrSum {
					t.Fatalf("Open(%x) = %x, %d: %x with the bits %x turned at %d", wrong, got, e, sealed, p, at)
				}
			}
		}
	}
}

// TestBurstsAreNoLonger: of 33 bits in a row there are some that lead to another sealed text, as the steps say; so what
// is held off is neither more nor less than the chapter names.
func TestBurstsAreNoLonger(t *testing.T) {
	sealed := crc.Seal("123456789")
	for at := range 8*len(sealed) - 32 {
		other := turned(sealed, at, 0x82f63b78<<1|1)
		got, e := crc.Open(other)
		if got != other[:9] || e != api.OK || other == sealed {
			t.Errorf("Open(%x) = %x, %d", other, got, e)
		}
	}
}

// TestForceOfKnown: the bytes were found by solving for them, with no step back.
func TestForceOfKnown(t *testing.T) {
	for _, c := range []struct {
		sum, want int
		four      string
	}{
		{0, 0, "ab9be09b"},
		{0, 1, "5aed0c9e"},
		{1, 0, "aa9be09b"},
		{0, low, "ffffffff"},
		{low, 0, "54641f64"},
		{low, low, "00000000"},
		{7, 9, "d55a6fb1"},
		{0, 1 << 31, "d54df04d"},
		{1 << 31, 0, "ab9be01b"},
		{0xe3069283, 0, "2809e678"},
		{0xe3069283, 0xe3069283, "8086efc2"},
		{low + 1, 1 << 40, "ab9be09b"},
		{math.MinInt, low + 2, "5aed0c9e"},
		{-1, -1, "00000000"},
		{-1 << 32, -1, "ffffffff"},
	} {
		if got := crc.Force(c.sum, c.want); got != raw(c.four) {
			t.Errorf("Force(%x, %x) = %x, not %s", c.sum, c.want, got, c.four)
		}
	}
}

// TestForce holds the four bytes against the steps of the chapter; no other four bytes lead to the same sum.
func TestForce(t *testing.T) {
	all := someSums()
	for _, sum := range all {
		for _, want := range all {
			four := crc.Force(sum, want)
			if len(four) != 4 || slowAdd(sum, four) != want&low {
				t.Fatalf("Force(%x, %x) = %x, which leads to %x", sum, want, four, slowAdd(sum, four))
			}
		}
	}
}

// TestForceLooksAtLowest: of both numbers no more than their lowest 32 bits count.
func TestForceLooksAtLowest(t *testing.T) {
	for _, sum := range sums {
		for _, want := range sums {
			four := crc.Force(sum&low, want&low)
			if got := crc.Force(sum, want); got != four {
				t.Fatalf("Force(%x, %x) = %x, not %x", sum, want, got, four)
			}
		}
	}
}

// TestForceBehindTexts: a text and what is forced behind it has the sum that is asked for, and such a one is opened.
func TestForceBehindTexts(t *testing.T) {
	for _, s := range texts() {
		sum := crc.Sum(s)
		for _, want := range []int{0, 1, 0x7fffffff, 0x80000000, low, sum, sum ^ low} {
			if got := slowSum(s + crc.Force(sum, want)); got != want {
				t.Fatalf("%x with %x behind it: %x, not %x", s, crc.Force(sum, want), got, want)
			}
		}
		forced := s + crc.Force(sum, 0x64636261)
		if got, e := crc.Open(forced + "abcd"); got != forced || e != api.OK {
			t.Fatalf("Open(%x abcd) = %x, %d", forced, got, e)
		}
	}
}

// TestForceFindsWhatWasAdded: of a text's last four bytes Force tells which they are.
func TestForceFindsWhatWasAdded(t *testing.T) {
	for _, s := range texts() {
		if len(s) < 4 {
			continue
		}
		ahead, last := s[:len(s)-4], s[len(s)-4:]
		if got := crc.Force(crc.Sum(ahead), crc.Sum(s)); got != last {
			t.Fatalf("Force(%x, %x) = %x, not %x", crc.Sum(ahead), crc.Sum(s), got, last)
		}
	}
}

// TestAgain: what is answered hangs on nothing that was asked ahead of it.
func TestAgain(t *testing.T) {
	for range 3 {
		if got := crc.Sum("123456789"); got != 0xe3069283 {
			t.Errorf("Sum = %x", got)
		}
		if got := crc.Add(0xe3069283, crc.Force(0xe3069283, 9)); got != 9 {
			t.Errorf("Add = %x", got)
		}
		if got, e := crc.Open("a" + raw("3043d0c1")); got != "a" || e != api.OK {
			t.Errorf("Open = %x, %d", got, e)
		}
		crc.Open("abc")
		crc.Open("abcdefgh")
	}
}

// TestEndsEverywhere asks all calls for all short bytes, and at both ends of int: none panics, and an error comes alone.
func TestEndsEverywhere(t *testing.T) {
	all := words("\x00\x01\x7f\x80\xff", 4)
	for b := range 256 {
		for c := range 256 {
			all = append(all, string([]byte{byte(b), byte(c)}))
		}
	}
	all = append(all, strings.Repeat("\x00", 1<<20))
	for _, s := range all {
		for _, sum := range []int{math.MinInt, -1, 0, low, low + 1, math.MaxInt} {
			if got := crc.Add(sum, s); got < 0 || got > low {
				t.Fatalf("Add(%x, %x) = %x", sum, s, got)
			}
		}
		if got := crc.Sum(s); got < 0 || got > low {
			t.Fatalf("Sum(%x) = %x", s, got)
		}
		if got := crc.Seal(s); len(got) != len(s)+4 {
			t.Fatalf("Seal(%x) = %x", s, got)
		}
		if got, e := crc.Open(s); e != api.OK && got != "" {
			t.Fatalf("Open(%x) = %x, %d", s, got, e)
		}
	}
	for _, sum := range sums {
		for _, want := range sums {
			if got := crc.Force(sum, want); len(got) != 4 {
				t.Fatalf("Force(%x, %x) = %x", sum, want, got)
			}
		}
	}
}
