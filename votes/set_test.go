package votes

import (
	"math/rand"
	"slices"
	"testing"
)

// table is which numbers of eight bits there are.
type table [256]bool

// runs are what a set of these numbers consists of.
func (x *table) runs() []run[uint8] {
	var l []run[uint8]
	for i := 1; i < len(x); i++ {
		switch n := uint8(i); {
		case !x[i]:
		case x[i-1]:
			l[len(l)-1].To = n
		default:
			l = append(l, run[uint8]{n, n})
		}
	}
	return l
}

// setIs holds a set against a table: its runs, and what comes after each number.
func setIs(t *testing.T, s *set[uint8], x *table) {
	t.Helper()
	if want := x.runs(); !slices.Equal(s.runs, want) {
		t.Fatalf("%v, want %v", s.runs, want)
	}
	for i := range x {
		want := i
		for want < 255 && x[want+1] {
			want++
		}
		if got := s.upto(uint8(i)); got != uint8(want) {
			t.Fatalf("%v: %d after %d, want %d", s.runs, got, i, want)
		}
	}
}

// Two runs, each of any numbers that are near to the ends.
func TestSetOfTwoRuns(t *testing.T) {
	var l []run[uint8]
	near := []uint8{1, 2, 3, 4, 5, 127, 128, 129, 251, 252, 253, 254, 255}
	for i, from := range near {
		for _, to := range near[i:] {
			l = append(l, run[uint8]{from, to})
		}
	}
	for _, a := range l {
		for _, b := range l {
			var s set[uint8]
			var x table
			for _, y := range []run[uint8]{a, b} {
				s.add(y)
				for i := int(y.From); i <= int(y.To); i++ {
					x[i] = true
				}
			}
			setIs(t, &s, &x)
		}
	}
}

func TestSetAgainstATable(t *testing.T) {
	source := rand.New(rand.NewSource(7))
	for round := range 200 {
		var s set[uint8]
		var x table
		longest := source.Intn(20) + 1
		for range 60 {
			from := source.Intn(255) + 1
			to := min(255, from+source.Intn(longest))
			s.add(run[uint8]{uint8(from), uint8(to)})
			for i := from; i <= to; i++ {
				x[i] = true
			}
			if source.Intn(20) == 0 {
				floor := source.Intn(256)
				if round%2 == 0 {
					floor /= 4
				}
				s.release(uint8(floor))
				clear(x[:floor+1])
			}
			setIs(t, &s, &x)
		}
	}
}

// Released at each number, of a set that has all of them, and of one that has every second one.
func TestSetReleasedAtEachNumber(t *testing.T) {
	for _, step := range []int{1, 2} {
		for floor := range 256 {
			var s set[uint8]
			var x table
			for i := step; i < len(x); i += step {
				s.add(run[uint8]{uint8(i), uint8(i)})
				x[i] = true
			}
			s.release(uint8(floor))
			clear(x[:floor+1])
			setIs(t, &s, &x)
		}
	}
}
