package votes

import (
	"math"
	"math/big"
	"math/rand"
	"reflect"
	"slices"
	"testing"

	"quorate/api"
)

const (
	most = math.MaxUint64 // the greatest slot
	half = 1 << 63
)

func span(from, to uint64) Span { return Span{From: from, To: to} }

func create(t testing.TB, n int) *Tally {
	t.Helper()
	x, e := New(n)
	if x == nil || e != api.OK {
		t.Fatalf("New(%d): %v, %v", n, x, e)
	}
	return x
}

// behind is an empty tally that has this floor.
func behind(t testing.TB, n int, floor uint64) *Tally {
	t.Helper()
	x := create(t, n)
	x.Release(floor)
	return x
}

func adds(t testing.TB, x *Tally, r int, l ...Span) {
	t.Helper()
	for _, s := range l {
		if e := x.Add(r, s); e != api.OK {
			t.Errorf("Add(%d, %v): %v", r, s, e)
		}
	}
}

func refuses(t testing.TB, x *Tally, r int, s Span, want api.Errno) {
	t.Helper()
	if e := x.Add(r, s); e != want {
		t.Errorf("Add(%d, %v): %v, want %v", r, s, e, want)
	}
}

func spansAre(t testing.TB, x *Tally, r int, want ...Span) {
	t.Helper()
	if got := x.Spans(r); !slices.Equal(got, want) {
		t.Errorf("Spans(%d): %v, want %v", r, got, want)
	}
}

func uptoIs(t testing.TB, x *Tally, slot, want uint64) {
	t.Helper()
	if got := x.Upto(slot); got != want {
		t.Errorf("Upto(%d): %d, want %d", slot, got, want)
	}
}

func chosenAre(t testing.TB, x *Tally, want bool, slots ...uint64) {
	t.Helper()
	for _, slot := range slots {
		if got := x.Chosen(slot); got != want {
			t.Errorf("Chosen(%d): %v", slot, got)
		}
	}
}

func hasAre(t testing.TB, x *Tally, r int, want bool, slots ...uint64) {
	t.Helper()
	for _, slot := range slots {
		if got := x.Has(r, slot); got != want {
			t.Errorf("Has(%d, %d): %v", r, slot, got)
		}
	}
}

// all are the spans of each replica, and of some that do not exist.
func all(x *Tally) [][]Span {
	var l [][]Span
	for r := -2; r < api.MaxReplicas+2; r++ {
		l = append(l, slices.Clone(x.Spans(r)))
	}
	return l
}

// same tells whether two tallies return the same, at slots from one on.
func same(t testing.TB, a, b *Tally, from uint64) {
	t.Helper()
	if x, y := all(a), all(b); !reflect.DeepEqual(x, y) {
		t.Errorf("spans %v and %v", x, y)
	}
	for i := range uint64(20) {
		slot := from + i
		if a.Chosen(slot) != b.Chosen(slot) || a.Upto(slot) != b.Upto(slot) {
			t.Errorf("slot %d: %v, %d and %v, %d", slot, a.Chosen(slot), a.Upto(slot), b.Chosen(slot), b.Upto(slot))
		}
		for r := range api.MaxReplicas {
			if a.Has(r, slot) != b.Has(r, slot) {
				t.Errorf("slot %d of %d: %v and %v", slot, r, a.Has(r, slot), b.Has(r, slot))
			}
		}
	}
}

func TestExamples(t *testing.T) {
	x := create(t, 3)
	adds(t, x, 0, span(1, 4))
	adds(t, x, 1, span(3, 9))
	uptoIs(t, x, 0, 0)
	adds(t, x, 1, span(1, 2))
	uptoIs(t, x, 0, 4)
	spansAre(t, x, 1, span(1, 9))
	x.Release(3)
	spansAre(t, x, 0, span(4, 4))
	chosenAre(t, x, true, 2)
	hasAre(t, x, 2, true, 3)
	hasAre(t, x, 2, false, 4)
}

// P15.1: Majority

func TestMajority(t *testing.T) {
	for n, want := range map[int]int{
		1: 1, 2: 2, 3: 2, 4: 3, 5: 3, 6: 4, 7: 4, 8: 5, 9: 5, 99: 50, 100: 51,
		math.MaxInt - 1: 1 << 62, math.MaxInt: 1 << 62,
	} {
		if got := Majority(n); got != want {
			t.Errorf("Majority(%d): %d, want %d", n, got, want)
		}
	}
}

func TestMajorityBelowOne(t *testing.T) {
	for _, n := range []int{0, -1, -2, -3, -7, -8, -100, math.MinInt32, math.MinInt + 1, math.MinInt} {
		if got := Majority(n); got != 1 {
			t.Errorf("Majority(%d): %d", n, got)
		}
	}
}

// The least number that is more than half: twice it is more, and twice one less is not. In exact integers.
func TestMajorityIsTheLeast(t *testing.T) {
	source := rand.New(rand.NewSource(1))
	l := []int{math.MaxInt, math.MaxInt - 1, math.MaxInt - 2, 1 << 62, 1<<62 + 1, 1<<62 - 1, math.MaxInt32}
	for n := range 2000 {
		l = append(l, n+1, source.Int()+1)
	}
	for _, n := range l {
		whole, m := big.NewInt(int64(n)), big.NewInt(int64(Majority(n)))
		twice := new(big.Int).Lsh(m, 1)
		less := new(big.Int).Sub(twice, big.NewInt(2))
		if n > 0 && (twice.Cmp(whole) <= 0 || less.Cmp(whole) > 0) {
			t.Errorf("Majority(%d): %v", n, m)
		}
	}
}

// P15.1: New

func TestNewIsEmpty(t *testing.T) {
	for n := 1; n <= api.MaxReplicas; n++ {
		x := create(t, n)
		for r := range n {
			spansAre(t, x, r)
			hasAre(t, x, r, true, 0)
			hasAre(t, x, r, false, 1, 2, half, most-1, most)
		}
		chosenAre(t, x, true, 0)
		chosenAre(t, x, false, 1, 2, half, most-1, most)
		for _, slot := range []uint64{0, 1, 2, half, most - 1, most} {
			uptoIs(t, x, slot, slot)
		}
	}
}

func TestNewHasSoManyReplicas(t *testing.T) {
	for n := 1; n <= api.MaxReplicas; n++ {
		x := create(t, n)
		for r := range n {
			adds(t, x, r, span(uint64(r)+1, uint64(r)+1))
		}
		refuses(t, x, n, span(1, 1), api.ErrArg)
		for r := range n {
			spansAre(t, x, r, span(uint64(r)+1, uint64(r)+1))
		}
	}
}

func TestNewOfNoSuchNumber(t *testing.T) {
	for _, n := range []int{0, -1, -2, -7, math.MinInt32, math.MinInt, 8, 9, 64, 1 << 16, 1 << 32, 1<<32 + 1, math.MaxInt} {
		if x, e := New(n); x != nil || e != api.ErrArg {
			t.Errorf("New(%d): %v, %v", n, x, e)
		}
	}
}

// P15.1: Add

func TestAddOfOneSpan(t *testing.T) {
	for _, s := range []Span{
		span(1, 1), span(1, 2), span(2, 2), span(5, 9), span(half-1, half+1), span(most, most), span(most-1, most), span(1, most), span(1, most-1), span(2, most),
	} {
		x := create(t, 2)
		adds(t, x, 1, s)
		spansAre(t, x, 1, s)
		spansAre(t, x, 0)
		hasAre(t, x, 1, true, s.From, s.To, s.From+(s.To-s.From)/2)
		hasAre(t, x, 1, s.From == 1, s.From-1)
		if s.To < most {
			hasAre(t, x, 1, false, s.To+1)
		}
	}
}

// The slot 0 is not above any floor: of spans that begin there the rest is added.
func TestAddFromSlotZero(t *testing.T) {
	x := create(t, 1)
	adds(t, x, 0, span(0, 0))
	spansAre(t, x, 0)
	adds(t, x, 0, span(0, 1))
	spansAre(t, x, 0, span(1, 1))
	adds(t, x, 0, span(0, 5))
	spansAre(t, x, 0, span(1, 5))
	adds(t, x, 0, span(0, most))
	spansAre(t, x, 0, span(1, most))
	hasAre(t, x, 0, true, 0, 1, half, most)
	uptoIs(t, x, 0, most)
}

func TestAddOfTwoSpans(t *testing.T) {
	for name, c := range map[string]struct {
		a, b Span
		want []Span
	}{
		"the same":                    {span(3, 7), span(3, 7), []Span{span(3, 7)}},
		"touching":                    {span(3, 7), span(8, 9), []Span{span(3, 9)}},
		"touching, of one slot":       {span(3, 3), span(4, 4), []Span{span(3, 4)}},
		"one slot apart":              {span(3, 7), span(9, 9), []Span{span(3, 7), span(9, 9)}},
		"one slot apart, of one slot": {span(3, 3), span(5, 5), []Span{span(3, 3), span(5, 5)}},
		"far apart":                   {span(1, 1), span(most, most), []Span{span(1, 1), span(most, most)}},
		"overlapping":                 {span(3, 7), span(5, 9), []Span{span(3, 9)}},
		"overlapping at one slot":     {span(3, 7), span(7, 9), []Span{span(3, 9)}},
		"within":                      {span(3, 7), span(4, 6), []Span{span(3, 7)}},
		"within, of one slot":         {span(3, 7), span(5, 5), []Span{span(3, 7)}},
		"within, at the beginning":    {span(3, 7), span(3, 4), []Span{span(3, 7)}},
		"within, at the end":          {span(3, 7), span(6, 7), []Span{span(3, 7)}},
		"touching at the beginning":   {span(1, 1), span(2, 3), []Span{span(1, 3)}},
		"touching at the end":         {span(most-3, most-1), span(most, most), []Span{span(most-3, most)}},
		"one apart at the end":        {span(most-3, most-2), span(most, most), []Span{span(most-3, most-2), span(most, most)}},
		"all, and the last one":       {span(1, most), span(most, most), []Span{span(1, most)}},
		"all, and the first one":      {span(1, most), span(1, 1), []Span{span(1, most)}},
		"all but the last one":        {span(1, most-1), span(most, most), []Span{span(1, most)}},
		"the two halves":              {span(1, half-1), span(half, most), []Span{span(1, most)}},
		"the two halves but one slot": {span(1, half-1), span(half+1, most), []Span{span(1, half-1), span(half+1, most)}},
	} {
		for _, l := range [][]Span{{c.a, c.b}, {c.b, c.a}, {c.b, c.a, c.b, c.a}} {
			x := create(t, 1)
			adds(t, x, 0, l...)
			if got := x.Spans(0); !slices.Equal(got, c.want) {
				t.Errorf("%s: %v: %v, want %v", name, l, got, c.want)
			}
		}
	}
}

// Three spans, in each order, of slots that are close to one another, at both ends of all slots.
func TestAddOfThreeSpans(t *testing.T) {
	const slots = 6
	for _, first := range []uint64{1, half, most - slots + 1} {
		var l []Span
		for i := range uint64(slots) {
			for j := i; j < slots; j++ {
				l = append(l, span(first+i, first+j))
			}
		}
		for _, a := range l {
			for _, b := range l {
				for _, c := range l {
					x, m := create(t, 1), modelOf(1)
					for _, s := range []Span{a, b, c} {
						adds(t, x, 0, s)
						m.add(0, s)
					}
					if got := x.Spans(0); !slices.Equal(got, m.spans(0)) {
						t.Fatalf("%v, %v, %v: %v", a, b, c, got)
					}
				}
			}
		}
	}
}

// every is spans of one slot each, every second slot from one on.
func every(first uint64, n int) []Span {
	var l []Span
	for i := range uint64(n) {
		l = append(l, span(first+2*i, first+2*i))
	}
	return l
}

func TestAddJoinsTwo(t *testing.T) {
	x := create(t, 1)
	adds(t, x, 0, every(1, 5)...)
	spansAre(t, x, 0, every(1, 5)...)
	adds(t, x, 0, span(4, 4))
	spansAre(t, x, 0, span(1, 1), span(3, 5), span(7, 7), span(9, 9))
	adds(t, x, 0, span(8, 8))
	spansAre(t, x, 0, span(1, 1), span(3, 5), span(7, 9))
	adds(t, x, 0, span(6, 6))
	spansAre(t, x, 0, span(1, 1), span(3, 9))
	adds(t, x, 0, span(2, 2))
	spansAre(t, x, 0, span(1, 9))
}

func TestAddJoinsMany(t *testing.T) {
	for _, c := range []struct {
		s    Span
		want []Span
	}{
		{span(10, 1992), []Span{span(2, 2), span(4, 4), span(6, 6), span(8, 8), span(10, 1992), span(1994, 1994), span(1996, 1996), span(1998, 1998), span(2000, 2000)}},
		{span(9, 1991), []Span{span(2, 2), span(4, 4), span(6, 6), span(8, 1992), span(1994, 1994), span(1996, 1996), span(1998, 1998), span(2000, 2000)}},
		{span(1, 1999), []Span{span(1, 2000)}},
		{span(1, 1), append([]Span{span(1, 2)}, every(4, 999)...)},
		{span(2001, 2001), append(every(2, 999), span(2000, 2001))},
		{span(1, most), []Span{span(1, most)}},
		{span(3, most-1), []Span{span(2, most-1)}},
		{span(5, most), []Span{span(2, 2), span(4, most)}},
		{span(2002, 2003), append(every(2, 1000), span(2002, 2003))},
	} {
		x := create(t, 3)
		adds(t, x, 2, every(2, 1000)...)
		adds(t, x, 2, c.s)
		spansAre(t, x, 2, c.want...)
		spansAre(t, x, 0)
		spansAre(t, x, 1)
	}
}

func TestAddIsToOneReplica(t *testing.T) {
	for n := 1; n <= api.MaxReplicas; n++ {
		for r := range n {
			x := create(t, n)
			adds(t, x, r, span(2, 3), span(5, 5))
			for other := range n {
				if other != r {
					spansAre(t, x, other)
					hasAre(t, x, other, false, 2, 3, 5)
				}
			}
			spansAre(t, x, r, span(2, 3), span(5, 5))
		}
	}
}

func TestAddBesideTheFloor(t *testing.T) {
	for _, floor := range []uint64{1, 2, 100, half, most - 2} {
		for _, c := range []struct {
			s    Span
			want []Span
		}{
			{span(0, 0), nil},
			{span(0, floor), nil},
			{span(1, floor), nil},
			{span(floor, floor), nil},
			{span(floor-1, floor), nil},
			{span(floor-1, floor+1), []Span{span(floor+1, floor+1)}},
			{span(floor, floor+1), []Span{span(floor+1, floor+1)}},
			{span(0, floor+2), []Span{span(floor+1, floor+2)}},
			{span(floor+1, floor+1), []Span{span(floor+1, floor+1)}},
			{span(floor+1, floor+2), []Span{span(floor+1, floor+2)}},
			{span(floor+2, floor+2), []Span{span(floor+2, floor+2)}},
			{span(0, most), []Span{span(floor+1, most)}},
			{span(floor, most), []Span{span(floor+1, most)}},
			{span(floor+1, most), []Span{span(floor+1, most)}},
			{span(most, most), []Span{span(most, most)}},
		} {
			x := behind(t, 2, floor)
			adds(t, x, 0, c.s)
			spansAre(t, x, 0, c.want...)
			spansAre(t, x, 1)
			adds(t, x, 0, c.s, span(floor, floor))
			spansAre(t, x, 0, c.want...)
		}
	}
}

func TestAddAboveTheGreatestFloor(t *testing.T) {
	x := behind(t, 2, most)
	for _, s := range []Span{span(0, 0), span(1, 1), span(most, most), span(most-1, most), span(0, most)} {
		adds(t, x, 1, s)
		spansAre(t, x, 1)
	}
	x = behind(t, 2, most-1)
	adds(t, x, 1, span(0, most-1))
	spansAre(t, x, 1)
	adds(t, x, 1, span(0, most))
	spansAre(t, x, 1, span(most, most))
}

func TestAddOfEmptySpans(t *testing.T) {
	x := behind(t, 3, 10)
	adds(t, x, 1, span(12, 14))
	for _, s := range []Span{span(1, 0), span(2, 1), span(most, 0), span(most, most-1), span(14, 13), span(15, 14), span(11, 10), span(10, 9), span(5, 2), span(most, 1), span(half, half-1)} {
		for r := range 3 {
			refuses(t, x, r, s, api.ErrArg)
		}
	}
	spansAre(t, x, 0)
	spansAre(t, x, 1, span(12, 14))
	spansAre(t, x, 2)
}

// strangers are no replicas of n.
func strangers(n int) []int {
	return []int{-1, -2, -7, math.MinInt32, math.MinInt, n, n + 1, api.MaxReplicas, api.MaxReplicas + 1, 64, 1 << 32, 1<<32 + 1, math.MaxInt}
}

func TestAddToNoSuchReplica(t *testing.T) {
	for n := 1; n <= api.MaxReplicas; n++ {
		x := behind(t, n, 3)
		adds(t, x, n-1, span(5, 6))
		before := all(x)
		for _, r := range strangers(n) {
			for _, s := range []Span{span(7, 8), span(1, 1), span(0, 0), span(2, 1), span(0, most)} {
				refuses(t, x, r, s, api.ErrArg)
			}
		}
		if got := all(x); !reflect.DeepEqual(got, before) {
			t.Errorf("of %d: %v, before %v", n, got, before)
		}
		chosenAre(t, x, false, 4, 7, 8, most)
	}
}

func TestAddToNil(t *testing.T) {
	var x *Tally
	for _, r := range append(strangers(3), 0, 1, 2) {
		for _, s := range []Span{span(1, 1), span(0, 0), span(2, 1), span(0, most)} {
			refuses(t, x, r, s, api.ErrNil)
		}
	}
}

// P15.2: Has

func TestHas(t *testing.T) {
	x := behind(t, 3, 4)
	adds(t, x, 1, span(6, 8), span(10, 10), span(most, most))
	hasAre(t, x, 1, true, 0, 1, 3, 4, 6, 7, 8, 10, most)
	hasAre(t, x, 1, false, 5, 9, 11, half, most-1)
	for _, r := range []int{0, 2} {
		hasAre(t, x, r, true, 0, 1, 3, 4)
		hasAre(t, x, r, false, 5, 6, 8, 10, most)
	}
	adds(t, x, 1, span(1, most))
	hasAre(t, x, 1, true, 5, 9, 11, half, most-1)
}

func TestHasUpToTheFloor(t *testing.T) {
	for _, floor := range []uint64{0, 1, 2, 100, half, most - 1, most} {
		for n := 1; n <= api.MaxReplicas; n++ {
			x := behind(t, n, floor)
			for r := range n {
				hasAre(t, x, r, true, 0, floor/2, floor)
				if floor < most {
					hasAre(t, x, r, false, floor+1, most)
				}
			}
		}
	}
}

func TestHasOfNoSuchReplica(t *testing.T) {
	for n := 1; n <= api.MaxReplicas; n++ {
		x := behind(t, n, 5)
		for r := range n {
			adds(t, x, r, span(1, most))
		}
		for _, r := range strangers(n) {
			hasAre(t, x, r, false, 0, 1, 4, 5, 6, half, most)
		}
	}
}

func TestHasOfNil(t *testing.T) {
	var x *Tally
	for _, r := range append(strangers(3), 0, 1, 2) {
		hasAre(t, x, r, false, 0, 1, half, most)
	}
}

// P15.2: Spans

func TestSpansInOrder(t *testing.T) {
	source := rand.New(rand.NewSource(2))
	want := every(7, 400)
	for range 20 {
		x := create(t, 2)
		for _, i := range source.Perm(len(want)) {
			adds(t, x, 1, want[i])
		}
		spansAre(t, x, 1, want...)
	}
}

func TestSpansAreTheSmallestNumber(t *testing.T) {
	source := rand.New(rand.NewSource(3))
	for range 20 {
		x := create(t, 1)
		for _, i := range source.Perm(300) {
			adds(t, x, 0, span(uint64(i)+1, uint64(i)+1))
		}
		spansAre(t, x, 0, span(1, 300))
	}
}

func TestSpansOfNoSuchReplica(t *testing.T) {
	for n := 1; n <= api.MaxReplicas; n++ {
		x := create(t, n)
		for r := range n {
			adds(t, x, r, span(1, 9))
		}
		for _, r := range strangers(n) {
			spansAre(t, x, r)
		}
	}
}

func TestSpansOfNil(t *testing.T) {
	var x *Tally
	for _, r := range append(strangers(3), 0, 1, 2) {
		spansAre(t, x, r)
	}
}

// P15.3: Chosen

// Each number of replicas, and which of them have a slot: it is chosen if twice as many as have it are more than all.
func TestChosenOfEachSubset(t *testing.T) {
	for _, slot := range []uint64{1, 2, half, most} {
		for n := 1; n <= api.MaxReplicas; n++ {
			for subset := range 1 << n {
				x := create(t, n)
				count := 0
				for r := range n {
					if subset>>r&1 == 1 {
						adds(t, x, r, span(slot, slot))
						count++
					}
				}
				want := 2*count > n
				chosenAre(t, x, want, slot)
				chosenAre(t, x, slot == 1, slot-1)
				if slot < most {
					chosenAre(t, x, false, slot+1)
				}
				last := slot - 1
				if want {
					last = slot
				}
				uptoIs(t, x, slot-1, last)
			}
		}
	}
}

// A replica that has a slot several times counts once.
func TestChosenCountsReplicas(t *testing.T) {
	x := create(t, 3)
	for range 5 {
		adds(t, x, 1, span(4, 6), span(5, 5))
	}
	chosenAre(t, x, false, 4, 5, 6)
	adds(t, x, 2, span(5, 5))
	chosenAre(t, x, true, 5)
	chosenAre(t, x, false, 4, 6)
}

func TestChosenUpToTheFloor(t *testing.T) {
	for _, floor := range []uint64{0, 1, 7, half, most - 1, most} {
		x := behind(t, 5, floor)
		chosenAre(t, x, true, 0, floor/2, floor)
		if floor < most {
			chosenAre(t, x, false, floor+1, most)
			for r := range 3 {
				chosenAre(t, x, false, floor+1)
				adds(t, x, r, span(floor+1, floor+1))
			}
			chosenAre(t, x, true, floor+1)
		}
	}
}

func TestChosenOfNil(t *testing.T) {
	var x *Tally
	chosenAre(t, x, false, 0, 1, 2, half, most)
}

// P15.3: Upto

func TestUpto(t *testing.T) {
	x := create(t, 3)
	adds(t, x, 0, span(1, 4), span(8, 9))
	adds(t, x, 1, span(1, 6))
	adds(t, x, 2, span(5, 9), span(11, most))
	for slot, want := range []uint64{6, 6, 6, 6, 6, 6, 6, 9, 9, 9, 10, 11, 12} {
		uptoIs(t, x, uint64(slot), want)
	}
	uptoIs(t, x, most, most)
	adds(t, x, 1, span(7, 7))
	uptoIs(t, x, 0, 9)
	adds(t, x, 0, span(10, most))
	uptoIs(t, x, 0, 9)
	adds(t, x, 1, span(10, 10))
	for _, slot := range []uint64{0, 1, 6, 7, 10, 11, half, most - 1, most} {
		uptoIs(t, x, slot, most)
	}
}

// The slot itself need not be chosen.
func TestUptoFromSlotThatIsNotChosen(t *testing.T) {
	x := create(t, 2)
	for r := range 2 {
		adds(t, x, r, span(5, 7))
	}
	adds(t, x, 0, span(3, 4))
	for slot, want := range []uint64{0, 1, 2, 3, 7, 7, 7, 7, 8, 9} {
		uptoIs(t, x, uint64(slot), want)
	}
}

func TestUptoBesideTheFloor(t *testing.T) {
	for _, floor := range []uint64{2, 100, half, most - 4} {
		x := behind(t, 3, floor)
		for _, slot := range []uint64{0, 1, floor - 1, floor} {
			uptoIs(t, x, slot, floor)
		}
		uptoIs(t, x, floor+1, floor+1)
		adds(t, x, 0, span(floor+2, floor+3))
		adds(t, x, 2, span(floor+2, floor+2))
		uptoIs(t, x, 0, floor)
		uptoIs(t, x, floor, floor)
		uptoIs(t, x, floor+1, floor+2)
		adds(t, x, 0, span(0, floor+1))
		adds(t, x, 1, span(0, floor+1))
		for _, slot := range []uint64{0, 1, floor - 1, floor, floor + 1, floor + 2} {
			uptoIs(t, x, slot, floor+2)
		}
		uptoIs(t, x, floor+3, floor+3)
	}
}

func TestUptoOfGreatestFloor(t *testing.T) {
	x := behind(t, 4, most)
	for _, slot := range []uint64{0, 1, half, most - 1, most} {
		uptoIs(t, x, slot, most)
	}
}

// Of five each slot is had by three others than the one before.
func TestUptoOverManySpans(t *testing.T) {
	for _, floor := range []uint64{0, half, most - 1000} {
		x := behind(t, 5, floor)
		for i := range uint64(1000) {
			for j := range uint64(3) {
				adds(t, x, int((i*2+j)%5), span(floor+1+i, floor+1+i))
			}
		}
		for _, i := range []uint64{0, 1, 2, 499, 999, 1000} {
			uptoIs(t, x, floor+i, floor+1000)
		}
		x.Release(floor + 500)
		uptoIs(t, x, 0, floor+1000)
	}
}

// One slot in the middle that one too few have ends it.
func TestUptoEndsAtAHole(t *testing.T) {
	for n := 1; n <= api.MaxReplicas; n++ {
		x := create(t, n)
		for r := range Majority(n) {
			adds(t, x, r, span(1, 20))
			if r > 0 {
				adds(t, x, r, span(21, 21))
			}
			adds(t, x, r, span(22, 40))
		}
		for _, slot := range []uint64{0, 7, 19, 20} {
			uptoIs(t, x, slot, 20)
		}
		uptoIs(t, x, 21, 40)
		adds(t, x, n-1, span(21, 21))
		if Majority(n) < n || n == 1 {
			uptoIs(t, x, 0, 40)
		}
	}
}

func TestUptoOfNil(t *testing.T) {
	var x *Tally
	for _, slot := range []uint64{0, 1, 2, half, most - 1, most} {
		uptoIs(t, x, slot, slot)
	}
}

// P15.4

func TestReleaseForgets(t *testing.T) {
	for to, want := range [][]Span{
		{span(2, 4), span(6, 6), span(8, 11)},
		{span(2, 4), span(6, 6), span(8, 11)},
		{span(3, 4), span(6, 6), span(8, 11)},
		{span(4, 4), span(6, 6), span(8, 11)},
		{span(6, 6), span(8, 11)},
		{span(6, 6), span(8, 11)},
		{span(8, 11)},
		{span(8, 11)},
		{span(9, 11)},
		{span(10, 11)},
		{span(11, 11)},
		nil,
		nil,
		nil,
	} {
		x := create(t, 2)
		adds(t, x, 1, span(2, 4), span(6, 6), span(8, 11))
		x.Release(uint64(to))
		spansAre(t, x, 1, want...)
		spansAre(t, x, 0)
		hasAre(t, x, 0, true, 0, uint64(to))
		hasAre(t, x, 0, false, uint64(to)+1, 20, most)
		hasAre(t, x, 1, false, max(uint64(to)+1, 12))
		chosenAre(t, x, true, 0, uint64(to))
		chosenAre(t, x, false, uint64(to)+1)
		uptoIs(t, x, 0, uint64(to))
	}
}

func TestReleaseOfEachReplica(t *testing.T) {
	for n := 1; n <= api.MaxReplicas; n++ {
		x := create(t, n)
		for r := range n {
			adds(t, x, r, span(uint64(r)+1, uint64(r)+9))
		}
		x.Release(5)
		for r := range n {
			spansAre(t, x, r, span(max(6, uint64(r)+1), uint64(r)+9))
		}
		x.Release(100)
		for r := range n {
			spansAre(t, x, r)
			hasAre(t, x, r, true, 100)
			hasAre(t, x, r, false, 101)
		}
	}
}

// A floor that is not above the one that there is changes nothing.
func TestReleaseOfLesserFloor(t *testing.T) {
	x := behind(t, 2, 10)
	adds(t, x, 0, span(12, 13))
	before := all(x)
	for _, to := range []uint64{0, 1, 9, 10} {
		x.Release(to)
		if got := all(x); !reflect.DeepEqual(got, before) {
			t.Errorf("Release(%d): %v, before %v", to, got, before)
		}
		chosenAre(t, x, true, 10)
		chosenAre(t, x, false, 11)
		hasAre(t, x, 1, true, 10)
		hasAre(t, x, 1, false, 11)
		uptoIs(t, x, 0, 10)
		adds(t, x, 1, span(1, 10))
		spansAre(t, x, 1)
	}
}

func TestReleaseAtTheGreatestSlot(t *testing.T) {
	x := create(t, 2)
	adds(t, x, 0, span(1, 3), span(half, most))
	adds(t, x, 1, span(most, most))
	x.Release(most - 1)
	spansAre(t, x, 0, span(most, most))
	spansAre(t, x, 1, span(most, most))
	uptoIs(t, x, 0, most)
	x.Release(most)
	spansAre(t, x, 0)
	spansAre(t, x, 1)
	hasAre(t, x, 0, true, 0, 1, most)
	hasAre(t, x, 1, true, 0, 1, most)
	chosenAre(t, x, true, 0, 1, most)
	x.Release(0)
	x.Release(most)
	chosenAre(t, x, true, most)
}

// What was forgotten is not kept, even if it is added again.
func TestAddOfForgottenSlots(t *testing.T) {
	x := create(t, 1)
	adds(t, x, 0, span(1, 10))
	x.Release(6)
	spansAre(t, x, 0, span(7, 10))
	adds(t, x, 0, span(1, 6), span(6, 6), span(0, 0))
	spansAre(t, x, 0, span(7, 10))
	adds(t, x, 0, span(2, 12))
	spansAre(t, x, 0, span(7, 12))
	x.Release(12)
	spansAre(t, x, 0)
	adds(t, x, 0, span(1, 12))
	spansAre(t, x, 0)
	adds(t, x, 0, span(1, 13))
	spansAre(t, x, 0, span(13, 13))
}

func TestReleaseSlotBySlot(t *testing.T) {
	x := create(t, 3)
	for r := range 3 {
		adds(t, x, r, every(uint64(r)+1, 200)...)
	}
	for to := range uint64(410) {
		x.Release(to)
		for r := range 3 {
			var want []Span
			for _, s := range every(uint64(r)+1, 200) {
				if s.From > to {
					want = append(want, s)
				}
			}
			spansAre(t, x, r, want...)
		}
	}
}

func TestReleaseOfNil(t *testing.T) {
	var x *Tally
	for _, to := range []uint64{0, 1, half, most} {
		x.Release(to)
	}
	hasAre(t, x, 0, false, 0, 1)
	chosenAre(t, x, false, 0, 1)
	uptoIs(t, x, 0, 0)
}

// P15.5

func TestMajoritiesHaveAReplicaInCommon(t *testing.T) {
	const slot = 9
	for n := 1; n <= api.MaxReplicas; n++ {
		for choice := range 1 << n {
			a, b := create(t, n), create(t, n)
			for r := range n {
				if choice>>r&1 == 1 {
					adds(t, a, r, span(slot, slot))
				} else {
					adds(t, b, r, span(slot, slot))
				}
			}
			if a.Chosen(slot) && b.Chosen(slot) {
				t.Errorf("of %d, %b: chosen in both", n, choice)
			}
			if n%2 == 1 && !a.Chosen(slot) && !b.Chosen(slot) {
				t.Errorf("of %d, %b: chosen in none", n, choice)
			}
			if a.Upto(slot-1) == slot && b.Upto(slot-1) == slot {
				t.Errorf("of %d, %b: up to it in both", n, choice)
			}
		}
	}
}

// part is a span for a replica.
type part struct {
	r int
	s Span
}

// divided are parts that have the same slots as a span, some of them twice.
func divided(source *rand.Rand, p part) []part {
	var l []part
	for from := p.s.From; ; {
		to := from + uint64(source.Intn(4))
		if to >= p.s.To || to < from {
			l = append(l, part{p.r, span(from, p.s.To)})
			break
		}
		l = append(l, part{p.r, span(from, to)})
		from = to + uint64(source.Intn(2))
	}
	for range source.Intn(2) {
		l = append(l, l[source.Intn(len(l))])
	}
	return l
}

// Spans in any order, divided in any way, and the floor at any time among them.
func TestOrderAndDivisionDoNotMatter(t *testing.T) {
	source := rand.New(rand.NewSource(4))
	for round := range 1500 {
		first := []uint64{1, half, most - 59}[round%3]
		n := source.Intn(api.MaxReplicas) + 1
		var l, pieces []part
		for range source.Intn(30) {
			from := uint64(source.Intn(58))
			p := part{source.Intn(n), span(first+from, first+from+uint64(source.Intn(min(20, 60-int(from)))))}
			l = append(l, p)
			pieces = append(pieces, divided(source, p)...)
		}
		floor := first - 1 + uint64(source.Intn(30))
		a, b := create(t, n), create(t, n)
		for _, p := range l {
			adds(t, a, p.r, p.s)
		}
		a.Release(floor)
		at := source.Intn(len(pieces) + 1)
		for i, j := range source.Perm(len(pieces)) {
			if i == at {
				b.Release(floor)
			}
			adds(t, b, pieces[j].r, pieces[j].s)
		}
		b.Release(floor)
		same(t, a, b, floor-5)
		if t.Failed() {
			t.Fatalf("%d: %v, %v, floor %d at %d", n, l, pieces, floor, at)
		}
	}
}

// model is a tally whose sets are kept slot by slot.
type model struct {
	floor uint64
	sets  []map[uint64]bool
}

func modelOf(n int) *model {
	m := &model{}
	for range n {
		m.sets = append(m.sets, map[uint64]bool{})
	}
	return m
}

func (m *model) isOne(r int) bool { return r >= 0 && r < len(m.sets) }

func (m *model) add(r int, s Span) api.Errno {
	if !m.isOne(r) || s.From > s.To {
		return api.ErrArg
	}
	for slot := s.From; ; slot++ {
		if slot > m.floor {
			m.sets[r][slot] = true
		}
		if slot == s.To {
			return api.OK
		}
	}
}

func (m *model) has(r int, slot uint64) bool {
	return m.isOne(r) && (slot <= m.floor || m.sets[r][slot])
}

func (m *model) spans(r int) []Span {
	if !m.isOne(r) {
		return nil
	}
	var slots []uint64
	for slot := range m.sets[r] {
		slots = append(slots, slot)
	}
	slices.Sort(slots)
	var l []Span
	for i, slot := range slots {
		if i > 0 && slots[i-1] == slot-1 {
			l[len(l)-1].To = slot
		} else {
			l = append(l, span(slot, slot))
		}
	}
	return l
}

func (m *model) chosen(slot uint64) bool {
	count := 0
	for _, set := range m.sets {
		if set[slot] {
			count++
		}
	}
	return slot <= m.floor || 2*count > len(m.sets)
}

func (m *model) upto(slot uint64) uint64 {
	slot = max(slot, m.floor)
	for slot < most && m.chosen(slot+1) {
		slot++
	}
	return slot
}

func (m *model) release(to uint64) {
	m.floor = max(m.floor, to)
	for _, set := range m.sets {
		for slot := range set {
			if slot <= m.floor {
				delete(set, slot)
			}
		}
	}
}

// agrees holds a tally against a model, at some slots from one on, and near the floor.
func agrees(t testing.TB, x *Tally, m *model, from uint64, slots int) {
	t.Helper()
	for r := -1; r <= len(m.sets); r++ {
		if got, want := x.Spans(r), m.spans(r); !slices.Equal(got, want) {
			t.Errorf("Spans(%d): %v, want %v", r, got, want)
		}
	}
	for i := range uint64(slots) {
		slot := from + i
		for r := -1; r <= len(m.sets); r++ {
			hasAre(t, x, r, m.has(r, slot), slot)
		}
		chosenAre(t, x, m.chosen(slot), slot)
		uptoIs(t, x, slot, m.upto(slot))
	}
	uptoIs(t, x, 0, m.upto(0))
	uptoIs(t, x, most, most)
}

// window is how many slots the acts are about.
const window = 48

// acts does what bytes state, to a tally and to a model, and compares them after each act. The slots of the acts go from one on: they may go round from the greatest one to 0, and a span is empty then.
func acts(t testing.TB, first uint64, b []byte) {
	t.Helper()
	if len(b) == 0 {
		return
	}
	n := int(b[0])%api.MaxReplicas + 1
	x, m := create(t, n), modelOf(n)
	for b = b[1:]; len(b) >= 3; b = b[3:] {
		from := first + uint64(b[1])%window
		if b[0]%16 == 15 {
			x.Release(from)
			m.release(from)
		} else {
			r := int(b[0]/16)%(n+2) - 1
			s := span(from, first+(from-first+uint64(b[2])%12-1)%window)
			if got, want := x.Add(r, s), m.add(r, s); got != want {
				t.Errorf("Add(%d, %v): %v, want %v", r, s, got, want)
			}
		}
		agrees(t, x, m, first, window+2)
		if t.Failed() {
			t.Fatalf("of %d, from %d: %x", n, first, b)
		}
	}
}

func TestRandomActs(t *testing.T) {
	source := rand.New(rand.NewSource(5))
	for _, first := range []uint64{0, 1, 1000, half - window/2, most - window + 1, most - window - 1} {
		for range 60 {
			b := make([]byte, 100)
			source.Read(b)
			acts(t, first, b)
		}
	}
}

func FuzzActs(f *testing.F) {
	f.Add(uint64(1), []byte("\x02\x10\x00\x04\x20\x02\x07\x20\x00\x02\x0f\x02\x00"))
	f.Add(uint64(most-window+1), []byte("\x00\x10\x2f\x01\x10\x2d\x02\x0f\x2e\x00\x10\x00\x0b"))
	f.Add(uint64(0), []byte("\x06\x10\x00\x01\x70\x05\x05\x00\x01\x02\xf0\x01\x02"))
	f.Fuzz(func(t *testing.T, first uint64, b []byte) {
		if len(b) < 200 && first <= most-window-1 {
			acts(t, first, b)
		}
	})
}

// Each state that three slots of up to four replicas can have.
func TestEachTally(t *testing.T) {
	for n := 1; n <= 4; n++ {
		for _, first := range []uint64{1, most - 2} {
			for state := range 1 << (3 * n) {
				x, m := create(t, n), modelOf(n)
				for r := range n {
					for i := range uint64(3) {
						if s := span(first+i, first+i); state>>(3*r+int(i))&1 == 1 {
							adds(t, x, r, s)
							m.add(r, s)
						}
					}
				}
				agrees(t, x, m, first, 3)
				if t.Failed() {
					t.Fatalf("of %d, from %d: %b", n, first, state)
				}
			}
		}
	}
}

// R1 to R4

// A tally that no call made has no replicas: nothing is added to it.
func TestTallyThatNoCallMade(t *testing.T) {
	x := new(Tally)
	for _, r := range append(strangers(0), 0, 1, 2) {
		refuses(t, x, r, span(1, 1), api.ErrArg)
		hasAre(t, x, r, false, 0, 1, most)
		spansAre(t, x, r)
	}
	chosenAre(t, x, false, 1, half, most)
	uptoIs(t, x, 3, 3)
	uptoIs(t, x, most, most)
	x.Release(5)
	chosenAre(t, x, true, 5)
	chosenAre(t, x, false, 6)
	uptoIs(t, x, 0, 5)
}

// mutable is a tally with spans, and what it returns.
func mutable(t testing.TB) (*Tally, []Span) {
	t.Helper()
	x := create(t, 3)
	adds(t, x, 1, every(3, 5)...)
	return x, every(3, 5)
}

func TestSpansAreNewMemory(t *testing.T) {
	x, want := mutable(t)
	first := x.Spans(1)
	whole := first[:cap(first)]
	for i := range whole {
		whole[i] = span(1000, 2000)
	}
	spansAre(t, x, 1, want...)
	hasAre(t, x, 1, false, 4, 1000)
	second := x.Spans(1)
	adds(t, x, 1, span(4, 4), span(100, 100))
	x.Release(5)
	if !slices.Equal(second, want) {
		t.Errorf("an earlier result: %v, want %v", second, want)
	}
	for i := range whole {
		if whole[i] != span(1000, 2000) {
			t.Errorf("what the caller wrote: %v", whole)
		}
	}
}

func TestTwoTalliesShareNothing(t *testing.T) {
	x, want := mutable(t)
	y, _ := mutable(t)
	adds(t, y, 1, span(1, most))
	y.Release(9)
	spansAre(t, x, 1, want...)
	hasAre(t, x, 2, false, 1, 9)
	uptoIs(t, x, 0, 0)
	spansAre(t, y, 1, span(10, most))
}

// Questions change nothing.
func TestQuestionsChangeNothing(t *testing.T) {
	x, _ := mutable(t)
	adds(t, x, 0, span(1, 9))
	before := all(x)
	for range 3 {
		for _, slot := range []uint64{0, 1, 5, 8, half, most} {
			x.Chosen(slot)
			x.Upto(slot)
			for _, r := range append(strangers(3), 0, 1, 2) {
				x.Has(r, slot)
				x.Spans(r)
			}
		}
		if got := all(x); !reflect.DeepEqual(got, before) {
			t.Errorf("%v, before %v", got, before)
		}
	}
}

func TestSameCallsSameResults(t *testing.T) {
	source := rand.New(rand.NewSource(6))
	for range 50 {
		a, b := create(t, 5), create(t, 5)
		for range 40 {
			r, from := source.Intn(7)-1, uint64(source.Intn(60))
			s := span(from, from+uint64(source.Intn(9))-2)
			if s.To-from > 9 {
				s.To = 0
			}
			if x, y := a.Add(r, s), b.Add(r, s); x != y {
				t.Fatalf("Add(%d, %v): %v, %v", r, s, x, y)
			}
		}
		to := uint64(source.Intn(20))
		a.Release(to)
		b.Release(to)
		same(t, a, b, to)
	}
}
