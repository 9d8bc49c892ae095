// Package span is layer 1: it reckons with spans of time (see shared/doc/01-span.md).
package span

import (
	"cmp"
	"slices"

	"erratum/api"
)

// Right: does the span have a time, and does it lie within the times that may be?
func Right(a api.Span) bool {
	return api.MinTime <= a.From && a.From < a.To && a.To <= api.MaxTime
}

// Make answers the span from from on and below to, or ErrSpan, if that one is not right.
func Make(from, to int) (api.Span, api.Errno) {
	a := api.Span{From: from, To: to}
	if !Right(a) {
		return api.Span{}, api.ErrSpan
	}
	return a, api.OK
}

// Has: is t a time of a, right or not?
func Has(a api.Span, t int) bool {
	return a.From <= t && t < a.To
}

// Long answers how many times a right span has, and 0 of others.
func Long(a api.Span) int {
	// The difference of any two ints may wrap round; that of a right span's ends does not.
	if !Right(a) {
		return 0
	}
	return a.To - a.From
}

// Meet answers the span of the times that two right spans have in common, if there are any.
func Meet(a, b api.Span) (api.Span, bool) {
	if !Right(a) || !Right(b) {
		return api.Span{}, false
	}
	m, e := Make(max(a.From, b.From), min(a.To, b.To))
	return m, e == api.OK
}

// Minus answers the spans of the times that a has and b has not, rising.
func Minus(a, b api.Span) []api.Span {
	if !Right(a) {
		return nil
	}
	both, ok := Meet(a, b)
	if !ok {
		return []api.Span{a}
	}
	if both == a {
		return nil
	}
	var pieces []api.Span
	keep := keeper(&pieces)
	keep(a.From, both.From)
	keep(both.To, a.To)
	return pieces
}

// Hull answers the least span that has all times of the right spans among l, if there are any.
func Hull(l ...api.Span) (api.Span, bool) {
	var hull api.Span
	found := false
	for _, a := range l {
		switch {
		case !Right(a):
		case !found:
			hull, found = a, true
		default:
			hull.From, hull.To = min(hull.From, a.From), max(hull.To, a.To)
		}
	}
	return hull, found
}

// Cut answers the pieces of a right span, cut at each of the times that lie within it, rising.
func Cut(a api.Span, at ...int) []api.Span {
	if !Right(a) {
		return nil
	}
	var pieces []api.Span
	keep := keeper(&pieces)
	from := a.From
	for _, t := range within(a, at) {
		keep(from, t)
		from = t
	}
	keep(from, a.To)
	return pieces
}

// Compare answers -1, 0 or 1, as a is ahead of b, is it, or is behind it: by From, then by To.
func Compare(a, b api.Span) int {
	if a == b {
		return 0
	}
	if a.From != b.From {
		return cmp.Compare(a.From, b.From)
	}
	return cmp.Compare(a.To, b.To)
}

// keeper answers a function that puts a piece behind those that are there, unless it has no time:
// so what cuts at an end, or twice at one time, need not look out for that.
func keeper(pieces *[]api.Span) func(from, to int) {
	return func(from, to int) {
		if from < to {
			*pieces = append(*pieces, api.Span{From: from, To: to})
		}
	}
}

// within answers the times of at that a has, in order. It is a list of its own, as the caller's stays as it is.
func within(a api.Span, at []int) []int {
	var times []int
	for _, t := range at {
		if Has(a, t) {
			times = append(times, t)
		}
	}
	slices.Sort(times)
	return times
}
