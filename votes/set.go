package votes

import (
	"slices"
	"sort"
)

// number is what a set has. A test can compare a set of small ones with a table of all that there are: of slots there are too many.
type number interface {
	~uint8 | ~uint16 | ~uint32 | ~uint64
}

// run is the numbers from one on, which is not 0, to another one, both included.
type run[N number] struct{ From, To N }

// merge widens a run by another one that it overlaps or touches.
func (x *run[N]) merge(y run[N]) {
	x.From, x.To = min(x.From, y.From), max(x.To, y.To)
}

// set is numbers above 0: the smallest number of runs that make them up, in order.
type set[N number] struct{ runs []run[N] }

// first is the place of the first run for which a test holds, which holds for all behind it too.
func (s *set[N]) first(is func(x run[N]) bool) int {
	return sort.Search(len(s.runs), func(i int) bool { return is(s.runs[i]) })
}

// visit passes on each run from a place up to another one, without that.
func (s *set[N]) visit(first, behind int, pass func(x run[N])) {
	for i := range behind - first {
		pass(s.runs[first+i])
	}
}

// add adds the numbers of a run.
func (s *set[N]) add(x run[N]) {
	// Whether two touch is told by the number before one, as the greatest number of all has none after it.
	first := s.first(func(y run[N]) bool { return y.To >= x.From-1 })
	behind := s.first(func(y run[N]) bool { return y.From-1 > x.To })
	s.visit(first, behind, x.merge)
	s.runs = slices.Replace(s.runs, first, behind, x)
}

// above is the place of the first run that has a number above the given one.
func (s *set[N]) above(n N) int {
	return s.first(func(x run[N]) bool { return x.To > n })
}

// upto is the last one of the consecutive numbers of the set directly after the given one: that itself, if there are none.
func (s *set[N]) upto(n N) N {
	place := s.above(n)
	if place == len(s.runs) || s.runs[place].From-1 > n {
		return n
	}
	return s.runs[place].To
}

// release removes the numbers up to one.
func (s *set[N]) release(to N) {
	s.runs = slices.Delete(s.runs, 0, s.above(to))
	if len(s.runs) > 0 {
		// There is a number after it: this run has one.
		s.runs[0].From = max(s.runs[0].From, to+1)
	}
}
