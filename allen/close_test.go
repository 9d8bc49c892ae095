package allen_test

import (
	"fmt"
	"math"
	"slices"
	"testing"

	"erratum/allen"
	"erratum/api"
)

// isClosed tells by the words of the chapter whether a net is closed.
func isClosed(n int, net []int) bool {
	for i := range n {
		for k := range n {
			s := net[n*i+k]
			if s&^every != 0 || s != turned(net[n*k+i]) || i == k && s != 64 {
				return false
			}
			for j := range n {
				if s&^followed(net[n*i+j], net[n*j+k]) != 0 {
					return false
				}
			}
		}
	}
	return true
}

// slowly closes a net by taking relations away one by one, each time the first that may not stay.
func slowly(n int, net []int) ([]int, bool) {
	l := make([]int, n*n)
	for p, x := range net {
		l[p] = x & every
	}
	for p := 0; p < n*n; {
		r := mayNotStay(n, l, p)
		if r < 0 {
			p++
			continue
		}
		l[p] &^= 1 << r
		p = 0
	}
	if slices.Contains(l, 0) {
		return nil, false
	}
	return l, true
}

// mayNotStay answers the first relation of the set of a place that the others don't let stay, or -1.
func mayNotStay(n int, l []int, p int) int {
	i, k := p/n, p%n
	left := l[p] & turned(l[n*k+i])
	if i == k {
		left &= 64
	}
	for j := range n {
		left &= followed(l[n*i+j], l[n*j+k])
	}
	for r := range 13 {
		if (l[p]&^left)&(1<<r) != 0 {
			return r
		}
	}
	return -1
}

// full answers a net of which nothing is known.
func full(n int) []int {
	l := make([]int, n*n)
	for p := range l {
		l[p] = every
	}
	return l
}

// thrown answers a net of sets of about so many relations, turned as they must be, or now and then not.
func thrown(d *dice, n, many int) []int {
	l := full(n)
	for i := range n {
		for k := range i {
			x := 0
			for range many {
				x |= 1 << d.below(13)
			}
			l[n*i+k], l[n*k+i] = x, turned(x)
			if d.below(3) == 0 {
				l[n*k+i] |= 1 << d.below(13)
			}
		}
		if d.below(2) == 0 {
			l[n*i+i] = 64
		}
	}
	return l
}

// thrownSpans answers right spans over few times, so that ends often fall together.
func thrownSpans(d *dice, n int) []api.Span {
	choice := spans(-3, 3)
	l := make([]api.Span, n)
	for i := range l {
		l[i] = choice[d.below(len(choice))]
	}
	return l
}

// netOf answers the net of the relations that spans have.
func netOf(l []api.Span) []int {
	var net []int
	for _, a := range l {
		for _, b := range l {
			r := 0
			for !holds(r, a, b) {
				r++
			}
			net = append(net, 1<<r)
		}
	}
	return net
}

func TestCloseOutside(t *testing.T) {
	for _, n := range []int{-1, -2, -8, 9, 10, 16, 1 << 32, -1 << 32, 3 << 32, math.MinInt, math.MaxInt} {
		for _, long := range []int{0, 1, 4, 64, 81, 100} {
			net := make([]int, long)
			for p := range net {
				net[p] = 64
			}
			if l, ok := allen.Close(n, net...); len(l) != 0 || ok {
				t.Errorf("Close(%d) of %d sets = %v, %v", n, long, l, ok)
			}
		}
	}
}

func TestCloseOfTooFewOrTooManySets(t *testing.T) {
	for n := range 9 {
		for long := range 101 {
			net := make([]int, long)
			for p := range net {
				net[p] = every
			}
			if l, ok := allen.Close(n, net...); ok != (long == n*n) || !ok && len(l) != 0 {
				t.Errorf("Close(%d) of %d sets = %v, %v", n, long, l, ok)
			}
		}
	}
}

// TestCloseOfNothingKnown: just that each thing equals itself is known then, with whatever other bits.
func TestCloseOfNothingKnown(t *testing.T) {
	for n := range 9 {
		want := full(n)
		for i := range n {
			want[n*i+i] = 64
		}
		for _, x := range []int{every, -1, math.MaxInt, every | math.MinInt} {
			net := full(n)
			for p := range net {
				net[p] = x
			}
			if l, ok := allen.Close(n, net...); !slices.Equal(l, want) || !ok {
				t.Errorf("Close(%d) of %d = %v, %v", n, x, l, ok)
			}
		}
	}
}

func TestCloseOfSmallNets(t *testing.T) {
	for _, c := range []struct {
		n         int
		net, want []int
	}{
		{1, []int{64}, []int{64}},
		{1, []int{64 | 1}, []int{64}},
		{1, []int{every &^ 64}, nil},
		{1, []int{0}, nil},
		{1, []int{1 << 13}, nil},
		{1, []int{math.MinInt}, nil},
		{2, []int{64, 1, 1 << 12, 64}, []int{64, 1, 1 << 12, 64}},
		{2, []int{64, 1, 1, 64}, nil},
		{2, []int{64, 64, 64, 64}, []int{64, 64, 64, 64}},
		{2, []int{64, set(0, 3, 5), every, 64}, []int{64, set(0, 3, 5), set(12, 9, 7), 64}},
		{2, []int{-1, -1, set(0, 3, 5), -1}, []int{64, set(12, 9, 7), set(0, 3, 5), 64}},
		{2, []int{64, set(0, 3), set(9, 11), 64}, []int{64, 1 << 3, 1 << 9, 64}},
		{2, []int{64, every, 0, 64}, nil},
		{2, []int{64, 0, every, 64}, nil},
		{2, []int{64, every, every, every &^ 64}, nil},
		{2, []int{every &^ 64, every, every, 64}, nil},
		// The first meets the second, and that the third: so the first is before the third.
		{3, []int{64, 2, -1, -1, 64, 2, -1, -1, 64}, []int{64, 2, 1, 1 << 11, 64, 2, 1 << 12, 1 << 11, 64}},
		// As before, but the third is told to be during the first.
		{3, []int{64, 2, -1, -1, 64, 2, 1 << 4, -1, 64}, nil},
		// Each is before the next one, round and round.
		{3, []int{64, 1, -1, -1, 64, 1, 1, -1, 64}, nil},
	} {
		ok := c.want != nil
		if l, is := allen.Close(c.n, c.net...); !slices.Equal(l, c.want) || is != ok {
			t.Errorf("Close(%d, %v) = %v, %v, not %v", c.n, c.net, l, is, c.want)
		}
	}
}

// TestCloseGoesOn: what is known of neighbours alone goes on, step by step, to all others.
func TestCloseGoesOn(t *testing.T) {
	for n := 2; n <= 8; n++ {
		var l []api.Span
		net := full(n)
		for i := range n {
			l = append(l, sp(i, i+1))
			if i > 0 {
				net[n*i+i-1] = 1 << 11
			}
		}
		want := netOf(l)
		if got, ok := allen.Close(n, net...); !slices.Equal(got, want) || !ok {
			t.Errorf("n %d: %v, %v, not %v", n, got, ok, want)
		}
		// The last one can't be ahead of the first.
		if n > 2 {
			net[n-1] = every &^ 1
			if got, ok := allen.Close(n, net...); len(got) != 0 || ok {
				t.Errorf("n %d: %v, %v", n, got, ok)
			}
		}
	}
}

// TestCloseOfWhatIsClosed: the nets of spans are closed, and stay as they are.
func TestCloseOfWhatIsClosed(t *testing.T) {
	d := dice(2)
	for round := range 300 {
		net := netOf(thrownSpans(&d, round%9))
		if got, ok := allen.Close(round%9, net...); !slices.Equal(got, net) || !ok {
			t.Fatalf("Close(%d, %v) = %v, %v", round%9, net, got, ok)
		}
	}
}

// TestCloseIsSound: whatever else is told of spans, what they have stays.
func TestCloseIsSound(t *testing.T) {
	d := dice(3)
	for round := range 300 {
		n := round % 9
		has := netOf(thrownSpans(&d, n))
		net := slices.Clone(has)
		for p := range net {
			for range d.below(4) {
				net[p] |= 1 << d.below(13)
			}
			net[p] = d.dirty(net[p])
		}
		got, ok := allen.Close(n, net...)
		if !ok || !isClosed(n, got) {
			t.Fatalf("Close(%d, %v) = %v, %v", n, net, got, ok)
		}
		for p, x := range got {
			if has[p]&^x != 0 || x&^net[p] != 0 {
				t.Fatalf("Close(%d, %v) has at %d %b, the spans %b", n, net, p, x, has[p])
			}
		}
	}
}

// TestCloseIsWhatIsLeft holds Close against taking relations away one by one; both answers must come often.
func TestCloseIsWhatIsLeft(t *testing.T) {
	d := dice(4)
	closed, none := 0, 0
	for round := range 600 {
		n := round % 9
		if fault := closeFault(n, thrown(&d, n, 1+d.below(8)), &closed, &none); fault != "" {
			t.Fatal(fault)
		}
	}
	if closed < 80 || none < 80 {
		t.Errorf("%d nets closed, %d not", closed, none)
	}
}

func closeFault(n int, net []int, closed, none *int) string {
	want, is := slowly(n, net)
	got, ok := allen.Close(n, net...)
	if ok != is || !slices.Equal(got, want) {
		return fmt.Sprintf("Close(%d, %v) = %v, %v, not %v", n, net, got, ok, want)
	}
	if !ok {
		*none++
		return ""
	}
	*closed++
	if !isClosed(n, got) {
		return fmt.Sprintf("Close(%d, %v) = %v is not closed", n, net, got)
	}
	if again, ok := allen.Close(n, got...); !ok || !slices.Equal(again, got) {
		return fmt.Sprintf("closed twice, %v is %v", got, again)
	}
	return ""
}

// parts answers all sets that are parts of a set and not empty.
func parts(x int) []int {
	var l []int
	for y := x; y > 0; y = (y - 1) & x {
		l = append(l, y)
	}
	return l
}

// TestCloseIsGreatest holds Close against all nets of three things whose sets are parts: it is all closed ones together.
func TestCloseIsGreatest(t *testing.T) {
	d := dice(5)
	for range 150 {
		net := thrown(&d, 3, 1+d.below(3))
		all := make([]int, 9)
		some := false
		for _, a := range parts(net[1]) {
			for _, b := range parts(net[2]) {
				for _, c := range parts(net[5]) {
					try := []int{64, a, b, turned(a), 64, c, turned(b), turned(c), 64}
					if !isPart(try, net) || !isClosed(3, try) {
						continue
					}
					some = true
					for p, x := range try {
						all[p] |= x
					}
				}
			}
		}
		if !some {
			all = nil
		}
		if got, ok := allen.Close(3, net...); ok != some || !slices.Equal(got, all) {
			t.Fatalf("Close(3, %v) = %v, %v, not %v", net, got, ok, all)
		}
	}
}

// isPart tells whether each set of a net is part of that of another one.
func isPart(net, of []int) bool {
	for p, x := range net {
		if x&^of[p] != 0 {
			return false
		}
	}
	return true
}

// TestCloseLooksAtNoOtherBits: bits that no relation has change nothing, and are not told.
func TestCloseLooksAtNoOtherBits(t *testing.T) {
	d := dice(6)
	for round := range 300 {
		n := round % 9
		net := thrown(&d, n, 5)
		other := slices.Clone(net)
		for p := range other {
			other[p] = d.dirty(other[p])
		}
		want, is := allen.Close(n, net...)
		if got, ok := allen.Close(n, other...); ok != is || !slices.Equal(got, want) {
			t.Fatalf("Close(%d, %v) = %v, %v, not %v", n, other, got, ok, want)
		}
	}
}

// TestCloseKeepsApart: the argument stays as it is, and an answer is its own, also where nothing became less.
func TestCloseKeepsApart(t *testing.T) {
	for _, net := range [][]int{
		{64, 2, -1, -1, 64, 2, -1, -1, 64},
		{64, 2, 1, 1 << 11, 64, 2, 1 << 12, 1 << 11, 64},
		{64, 1, -1, -1, 64, 1, 1, -1, 64},
	} {
		was := slices.Clone(net)
		first, _ := allen.Close(3, net...)
		if !slices.Equal(net, was) {
			t.Fatalf("Close made %v of %v", net, was)
		}
		want := slices.Clone(first)
		for p := range first {
			first[p] = 0
		}
		if second, _ := allen.Close(3, net...); !slices.Equal(net, was) || !slices.Equal(second, want) {
			t.Fatalf("Close(3, %v) = %v, not %v", was, second, want)
		}
	}
}
