package ring

import (
	"bytes"
	"math"
	"math/rand"
	"reflect"
	"slices"
	"strings"
	"testing"

	"quorate/api"
)

const (
	maximum = math.MaxUint64
	half    = 1 << 63
)

func create[T any](t *testing.T, room int) *Ring[T] {
	t.Helper()
	r, e := New[T](room)
	if r == nil || e != api.OK {
		t.Fatalf("New(%d): %v, %v", room, r, e)
	}
	return r
}

// behind is an empty ring of texts that has this base.
func behind(t *testing.T, room int, base uint64) *Ring[string] {
	t.Helper()
	r := create[string](t, room)
	release(t, r, base, api.OK)
	return r
}

func set[T any](t *testing.T, r *Ring[T], slot uint64, v T, want api.Errno) {
	t.Helper()
	if e := r.Set(slot, v); e != want {
		t.Errorf("Set(%d, %v): %v, want %v", slot, v, e, want)
	}
}

func release[T any](t *testing.T, r *Ring[T], to uint64, want api.Errno) {
	t.Helper()
	if e := r.Release(to); e != want {
		t.Errorf("Release(%d): %v, want %v", to, e, want)
	}
}

func has[T any](t *testing.T, r *Ring[T], slot uint64, want T) {
	t.Helper()
	if v, is := r.Get(slot); !is || !reflect.DeepEqual(v, want) {
		t.Errorf("Get(%d): %v, %v, want %v", slot, v, is, want)
	}
}

func lacks[T any](t *testing.T, r *Ring[T], slots ...uint64) {
	t.Helper()
	var none T
	for _, slot := range slots {
		if v, is := r.Get(slot); is || !reflect.DeepEqual(v, none) {
			t.Errorf("Get(%d): %v, %v, want none", slot, v, is)
		}
	}
}

func ends[T any](t *testing.T, r *Ring[T], base, last uint64) {
	t.Helper()
	if r.Base() != base || r.Last() != last {
		t.Errorf("base %d, last %d, want %d, %d", r.Base(), r.Last(), base, last)
	}
}

// pair is a slot and its value.
type pair[T any] struct {
	slot uint64
	v    T
}

// all are the slots that a ring's All visits.
func all[T any](r *Ring[T]) []pair[T] {
	var out []pair[T]
	for slot, v := range r.All {
		out = append(out, pair[T]{slot, v})
	}
	return out
}

func visits[T any](t *testing.T, r *Ring[T], want ...pair[T]) {
	t.Helper()
	if got := all(r); len(got)+len(want) > 0 && !reflect.DeepEqual(got, want) {
		t.Errorf("All: %v, want %v", got, want)
	}
}

// is tells whether a ring has this base, these values, and no other ones at the slots near it.
func is(t *testing.T, r *Ring[string], base uint64, want ...pair[string]) {
	t.Helper()
	last := base
	for _, p := range want {
		has(t, r, p.slot, p.v)
		last = p.slot
	}
	ends(t, r, base, last)
	visits(t, r, want...)
	for near := range uint64(len(r.cells) + 20) {
		slot := base - 10 + near
		if !slices.ContainsFunc(want, func(p pair[string]) bool { return p.slot == slot }) {
			lacks(t, r, slot)
		}
	}
}

func TestExamples(t *testing.T) {
	r := create[string](t, 2)
	set(t, r, 1, "a", api.OK)
	set(t, r, 3, "c", api.ErrFull)
	set(t, r, 0, "x", api.ErrOutside)
	is(t, r, 0, pair[string]{1, "a"})
	release(t, r, 1, api.OK)
	set(t, r, 3, "c", api.OK)
	lacks(t, r, 1)
	has(t, r, 3, "c")
	is(t, r, 1, pair[string]{3, "c"})
}

// P7.1

func TestNewWithinTheLimits(t *testing.T) {
	for _, room := range []int{1, 2, 3, 4, 5, 7, 16, 100, 256, 1000, 4095, 4096} {
		r := create[string](t, room)
		is(t, r, 0)
		set(t, r, uint64(room)+1, "x", api.ErrFull)
		set(t, r, uint64(room), "last", api.OK)
		is(t, r, 0, pair[string]{uint64(room), "last"})
	}
}

func TestNewBeyondTheLimits(t *testing.T) {
	for _, room := range []int{0, -1, -2, -4096, -4097, math.MinInt32, math.MinInt, 4097, 4098, 8192, 1 << 16, 1 << 32, 1<<32 + 1, math.MaxInt} {
		if r, e := New[string](room); r != nil || e != api.ErrArg {
			t.Errorf("New(%d): %v, %v, want none, %v", room, r, e, api.ErrArg)
		}
		if r, e := New[[]byte](room); r != nil || e != api.ErrArg {
			t.Errorf("New(%d): %v, %v, want none, %v", room, r, e, api.ErrArg)
		}
	}
}

func TestLast(t *testing.T) {
	r := create[string](t, 8)
	ends(t, r, 0, 0)
	set(t, r, 4, "midst", api.OK)
	ends(t, r, 0, 4)
	set(t, r, 2, "below", api.OK)
	ends(t, r, 0, 4)
	set(t, r, 7, "above", api.OK)
	ends(t, r, 0, 7)
	set(t, r, 4, "midst, again", api.OK)
	ends(t, r, 0, 7)
	set(t, r, 9, "beyond", api.ErrFull)
	set(t, r, 0, "outside", api.ErrOutside)
	ends(t, r, 0, 7)
	release(t, r, 4, api.OK)
	ends(t, r, 4, 7)
	release(t, r, 7, api.OK)
	ends(t, r, 7, 7)
	set(t, r, 9, "midst", api.OK)
	ends(t, r, 7, 9)
	release(t, r, 8, api.OK)
	ends(t, r, 8, 9)
	release(t, r, 10, api.OK)
	ends(t, r, 10, 10)
}

// Last is the greatest slot that is left, whichever were set, in whichever order, and to whichever a ring is released.
func TestLastOfAnySlots(t *testing.T) {
	for mask := range 1 << 5 {
		for to := range uint64(9) {
			for _, order := range [][]uint64{{1, 2, 3, 4, 5}, {5, 4, 3, 2, 1}, {3, 1, 5, 2, 4}} {
				r := create[int](t, 5)
				want := to
				for _, slot := range order {
					if mask>>(slot-1)&1 > 0 {
						set(t, r, slot, 0, api.OK)
						want = max(want, slot)
					}
				}
				release(t, r, to, api.OK)
				ends(t, r, to, want)
			}
		}
	}
}

// P7.2

func TestEdges(t *testing.T) {
	for _, room := range []int{1, 2, 3, 10, 4095, 4096} {
		for _, base := range []uint64{0, 1, 2, 9, 10, 4095, 4096, 4097, half - 1, half, half + 1, maximum - 8193, maximum - 8192} {
			end := base + uint64(room)
			r := behind(t, room, base)
			set(t, r, base, "x", api.ErrOutside)
			set(t, r, 0, "x", api.ErrOutside)
			set(t, r, end+1, "x", api.ErrFull)
			is(t, r, base)
			set(t, r, base+1, "first", api.OK)
			has(t, r, base+1, "first")
			ends(t, r, base, base+1)
			set(t, r, end, "last", api.OK)
			has(t, r, end, "last")
			ends(t, r, base, end)
			lacks(t, r, base, end+1, 0, base-1, end+uint64(room), base+1-uint64(room))
			set(t, r, base, "x", api.ErrOutside)
			set(t, r, end+1, "x", api.ErrFull)
			set(t, r, end+uint64(room), "x", api.ErrFull)
			if room > 1 {
				visits(t, r, pair[string]{base + 1, "first"}, pair[string]{end, "last"})
			} else {
				visits(t, r, pair[string]{end, "last"})
			}
		}
	}
}

// No slot below the base is taken for one far above it.
func TestFarBelowAndFarAbove(t *testing.T) {
	r := behind(t, 4, 100)
	for _, slot := range []uint64{0, 1, 50, 96, 97, 98, 99, 100} {
		set(t, r, slot, "x", api.ErrOutside)
	}
	for _, slot := range []uint64{105, 106, 108, 204, 1 << 31, 1<<32 + 101, half, half + 101, maximum - 1, maximum} {
		set(t, r, slot, "x", api.ErrFull)
		lacks(t, r, slot)
	}
	is(t, r, 100)
}

func TestSetTwice(t *testing.T) {
	r := create[string](t, 3)
	set(t, r, 2, "a", api.OK)
	for _, s := range []string{"b", "", "c", "c", "a"} {
		set(t, r, 2, s, api.OK)
		is(t, r, 0, pair[string]{2, s})
	}
	set(t, r, 1, "one", api.OK)
	set(t, r, 3, "three", api.OK)
	set(t, r, 2, "two", api.OK)
	is(t, r, 0, pair[string]{1, "one"}, pair[string]{2, "two"}, pair[string]{3, "three"})
}

// A value is one, zero too.
func TestZeroValues(t *testing.T) {
	r := create[string](t, 3)
	set(t, r, 2, "", api.OK)
	is(t, r, 0, pair[string]{2, ""})

	n := create[int](t, 3)
	set(t, n, 3, 0, api.OK)
	has(t, n, 3, 0)
	lacks(t, n, 1, 2)
	visits(t, n, pair[int]{3, 0})

	b := create[[]byte](t, 3)
	set(t, b, 1, nil, api.OK)
	has(t, b, 1, nil)
	lacks(t, b, 2, 3)
	if got := all(b); len(got) != 1 || got[0].slot != 1 || len(got[0].v) != 0 {
		t.Errorf("All: %v", got)
	}
}

// P7.3

func TestRelease(t *testing.T) {
	full := []pair[string]{{11, "a"}, {12, "b"}, {13, "c"}, {14, "d"}}
	for _, x := range []struct {
		to   uint64
		left int
	}{
		{10, 4}, {11, 3}, {12, 2}, {13, 1}, {14, 0}, {15, 0}, {16, 0}, {17, 0}, {18, 0}, {19, 0}, {22, 0}, {100, 0}, {1 << 32, 0}, {half + 10, 0}, {half + 11, 0}, {maximum - 1, 0}, {maximum, 0},
	} {
		r := behind(t, 4, 10)
		for _, p := range full {
			set(t, r, p.slot, p.v, api.OK)
		}
		release(t, r, x.to, api.OK)
		is(t, r, x.to, full[4-x.left:]...)
		release(t, r, x.to, api.OK)
		is(t, r, x.to, full[4-x.left:]...)
		release(t, r, x.to-1, api.ErrOutside)
		release(t, r, 0, api.ErrOutside)
		release(t, r, 9, api.ErrOutside)
		is(t, r, x.to, full[4-x.left:]...)
	}
}

func TestReleaseBelowTheBase(t *testing.T) {
	r := behind(t, 4, 10)
	set(t, r, 12, "b", api.OK)
	for _, to := range []uint64{0, 1, 6, 8, 9} {
		release(t, r, to, api.ErrOutside)
		is(t, r, 10, pair[string]{12, "b"})
	}
	r = create[string](t, 4)
	release(t, r, 0, api.OK)
	is(t, r, 0)
}

func TestReleaseOfSlotsWithout(t *testing.T) {
	r := create[string](t, 6)
	set(t, r, 5, "e", api.OK)
	for to := uint64(1); to < 5; to++ {
		release(t, r, to, api.OK)
		is(t, r, to, pair[string]{5, "e"})
	}
	release(t, r, 5, api.OK)
	is(t, r, 5)
}

// What was removed has no memory any more.
func TestReleasedIsForgotten(t *testing.T) {
	for to := range uint64(12) {
		r := create[*int](t, 4)
		for slot := uint64(1); slot <= 4; slot++ {
			set(t, r, slot, new(int), api.OK)
		}
		release(t, r, to, api.OK)
		kept := uint64(0)
		for _, c := range r.cells {
			if c.v != nil {
				kept++
			}
		}
		if kept != 4-min(to, 4) {
			t.Errorf("Release(%d): %d values are kept", to, kept)
		}
	}
}

// P7.4

func TestAllWithSlotsMissing(t *testing.T) {
	for _, base := range []uint64{0, 1, 3, 5, 77, maximum - 5} {
		for mask := range 1 << 5 {
			r := behind(t, 5, base)
			var want []pair[string]
			for i := range uint64(5) {
				if mask>>i&1 > 0 {
					want = append(want, pair[string]{base + 1 + i, strings.Repeat("x", int(i))})
				}
			}
			for _, p := range slices.Backward(want) {
				set(t, r, p.slot, p.v, api.OK)
			}
			is(t, r, base, want...)
		}
	}
}

func TestAllOfNone(t *testing.T) {
	visits(t, create[string](t, 1))
	visits(t, create[string](t, 4096))
	r := behind(t, 4, 10)
	visits(t, r)
	set(t, r, 11, "a", api.OK)
	set(t, r, 14, "d", api.OK)
	release(t, r, 14, api.OK)
	visits(t, r)
}

func TestAllEndedEarly(t *testing.T) {
	r := behind(t, 6, 3)
	full := []pair[string]{{4, "a"}, {6, "c"}, {7, "d"}, {9, "f"}}
	for _, p := range full {
		set(t, r, p.slot, p.v, api.OK)
	}
	for stop := 1; stop <= 5; stop++ {
		var got []pair[string]
		r.All(func(slot uint64, v string) bool {
			got = append(got, pair[string]{slot, v})
			return len(got) < stop
		})
		if want := full[:min(stop, 4)]; !slices.Equal(got, want) {
			t.Errorf("ended after %d: %v, want %v", stop, got, want)
		}
	}
	for slot := range r.All {
		if slot == 6 {
			break
		}
	}
	is(t, r, 3, full...)
}

func TestAllBehindARelease(t *testing.T) {
	r := create[string](t, 4)
	for slot := uint64(1); slot <= 4; slot++ {
		set(t, r, slot, "old", api.OK)
	}
	release(t, r, 3, api.OK)
	visits(t, r, pair[string]{4, "old"})
	set(t, r, 7, "new", api.OK)
	set(t, r, 5, "new", api.OK)
	visits(t, r, pair[string]{4, "old"}, pair[string]{5, "new"}, pair[string]{7, "new"})
	is(t, r, 3, pair[string]{4, "old"}, pair[string]{5, "new"}, pair[string]{7, "new"})
}

func TestAllWithinAll(t *testing.T) {
	r := create[int](t, 4)
	for _, slot := range []uint64{1, 3, 4} {
		set(t, r, slot, int(slot), api.OK)
	}
	var got []uint64
	for outer := range r.All {
		for inner := range r.All {
			got = append(got, 10*outer+inner)
		}
	}
	if want := []uint64{11, 13, 14, 31, 33, 34, 41, 43, 44}; !slices.Equal(got, want) {
		t.Errorf("%v, want %v", got, want)
	}
}

// A ring may be changed while it is visited: what was released is not visited, and no more slots than the ring had.
func TestChangedWhileVisited(t *testing.T) {
	r := create[uint64](t, 4)
	for slot := uint64(1); slot <= 4; slot++ {
		set(t, r, slot, slot, api.OK)
	}
	var got []uint64
	for slot, v := range r.All {
		got = append(got, slot, v)
		release(t, r, slot, api.OK)
		set(t, r, slot+4, slot+4, api.OK)
	}
	if want := []uint64{1, 1, 2, 2, 3, 3, 4, 4}; !slices.Equal(got, want) {
		t.Errorf("%v, want %v", got, want)
	}
	ends(t, r, 4, 8)

	got = nil
	for slot, v := range r.All {
		got = append(got, slot, v)
		release(t, r, 7, api.OK)
		set(t, r, 10, 10, api.OK)
	}
	if want := []uint64{5, 5, 8, 8}; !slices.Equal(got, want) {
		t.Errorf("%v, want %v", got, want)
	}
	visits(t, r, pair[uint64]{8, 8}, pair[uint64]{10, 10})
}

// P7.5

// Slots with the same remainder share a place, one after another.
func TestSameRemainder(t *testing.T) {
	for _, room := range []uint64{1, 2, 3, 5, 8} {
		for _, start := range []uint64{0, 1, 2, 100, half - room, maximum - 6*room} {
			r := behind(t, int(room), start)
			for base := start; base < start+4*room; base++ {
				next := base + 1 + room
				set(t, r, base+1, "early", api.OK)
				set(t, r, next, "late", api.ErrFull)
				is(t, r, base, pair[string]{base + 1, "early"})
				release(t, r, base+1, api.OK)
				is(t, r, base+1)
				lacks(t, r, base+1, next, next+room)
				set(t, r, next, "late", api.OK)
				set(t, r, base+1, "early", api.ErrOutside)
				is(t, r, base+1, pair[string]{next, "late"})
				release(t, r, next, api.OK)
				r = behind(t, int(room), base+1)
			}
		}
	}
}

func TestSameRemainderFarBeyond(t *testing.T) {
	for _, by := range []uint64{4, 5, 7, 8, 40, 1 << 32, half} {
		r := create[string](t, 4)
		for slot := uint64(1); slot <= 4; slot++ {
			set(t, r, slot, "old", api.OK)
		}
		release(t, r, by, api.OK)
		is(t, r, by)
		for slot := by + 1; slot <= by+4; slot++ {
			lacks(t, r, slot)
			set(t, r, slot, "new", api.OK)
			has(t, r, slot, "new")
			lacks(t, r, slot-4, slot+4)
		}
	}
}

// All slots there are: a ring at their end has fewer than it has room for.
func TestGreatestSlots(t *testing.T) {
	for _, room := range []int{1, 2, 3, 4, 100, 4095, 4096} {
		for left := range uint64(6) {
			base := maximum - left
			r := behind(t, room, base)
			is(t, r, base)
			set(t, r, base, "x", api.ErrOutside)
			var want []pair[string]
			for i := range left {
				slot := base + 1 + i
				if i < uint64(room) {
					set(t, r, slot, "y", api.OK)
					want = append(want, pair[string]{slot, "y"})
				} else {
					set(t, r, slot, "y", api.ErrFull)
				}
			}
			for _, slot := range []uint64{0, 1, 2, 5, 4096} {
				set(t, r, slot, "x", api.ErrOutside)
			}
			is(t, r, base, want...)
			release(t, r, maximum, api.OK)
			is(t, r, maximum)
			release(t, r, 0, api.ErrOutside)
			release(t, r, maximum-1, api.ErrOutside)
			release(t, r, maximum, api.OK)
			for _, slot := range []uint64{0, 1, uint64(room), maximum - 1, maximum} {
				set(t, r, slot, "x", api.ErrOutside)
				lacks(t, r, slot)
			}
			is(t, r, maximum)
		}
	}
}

// Two rings have nothing in common.
func TestRingsAreApart(t *testing.T) {
	a, b := create[string](t, 4), create[string](t, 4)
	set(t, a, 1, "a", api.OK)
	is(t, b, 0)
	set(t, b, 2, "b", api.OK)
	release(t, a, 3, api.OK)
	is(t, a, 3)
	is(t, b, 0, pair[string]{2, "b"})
}

// R1

func empty[T any](t *testing.T, r *Ring[T]) {
	t.Helper()
	ends(t, r, 0, 0)
	lacks(t, r, 0, 1, 2, 4096, half, maximum)
	r.All(nil)
	r.All(func(slot uint64, v T) bool {
		t.Errorf("All visits %d", slot)
		return true
	})
	for slot := range r.All {
		t.Errorf("All visits %d", slot)
	}
}

func nothing[T any](t *testing.T) {
	t.Helper()
	var r *Ring[T]
	var v T
	for range 2 {
		for _, slot := range []uint64{0, 1, 2, 4096, half, maximum} {
			set(t, r, slot, v, api.ErrNil)
			release(t, r, slot, api.ErrNil)
		}
		empty(t, r)
	}
}

func TestNil(t *testing.T) {
	nothing[int](t)
	nothing[string](t)
	nothing[[]byte](t)
	nothing[any](t)
	nothing[func()](t)
}

func TestNilYield(t *testing.T) {
	r := create[string](t, 4)
	r.All(nil)
	set(t, r, 2, "b", api.OK)
	r.All(nil)
	is(t, r, 0, pair[string]{2, "b"})
}

// A ring that no call created has no room.
func TestZeroRing(t *testing.T) {
	var r Ring[string]
	empty(t, &r)
	set(t, &r, 0, "x", api.ErrOutside)
	set(t, &r, 1, "x", api.ErrFull)
	set(t, &r, maximum, "x", api.ErrFull)
	empty(t, &r)
	release(t, &r, 5, api.OK)
	is(t, &r, 5)
}

// R3, and the types of values

func TestNumbers(t *testing.T) {
	r := create[int64](t, 3)
	for i, n := range []int64{0, -1, math.MinInt64, math.MaxInt64, 7} {
		slot := uint64(i + 1)
		release(t, r, max(slot, 3)-3, api.OK)
		set(t, r, slot, n, api.OK)
		has(t, r, slot, n)
	}
	visits(t, r, pair[int64]{3, math.MinInt64}, pair[int64]{4, math.MaxInt64}, pair[int64]{5, 7})
}

func TestTexts(t *testing.T) {
	r := create[string](t, 3)
	long := strings.Repeat("long", 10000)
	set(t, r, 1, long, api.OK)
	set(t, r, 2, "\x00\xff", api.OK)
	set(t, r, 3, "", api.OK)
	is(t, r, 0, pair[string]{1, long}, pair[string]{2, "\x00\xff"}, pair[string]{3, ""})
}

func TestOtherTypes(t *testing.T) {
	n := 5
	p := create[*int](t, 2)
	set(t, p, 1, &n, api.OK)
	if v, _ := p.Get(1); v != &n {
		t.Error("another pointer")
	}

	e := create[error](t, 3)
	set(t, e, 1, nil, api.OK)
	set(t, e, 2, error(api.ErrBad), api.OK)
	has(t, e, 1, nil)
	has(t, e, 2, error(api.ErrBad))
	lacks(t, e, 3)

	f := create[func() int](t, 2)
	if f.Set(2, func() int { return n }) != api.OK {
		t.Error("Set")
	}
	if v, is := f.Get(2); !is || v() != 5 {
		t.Error("another function")
	}

	a := create[[2]uint8](t, 2)
	set(t, a, 2, [2]uint8{1, 2}, api.OK)
	has(t, a, 2, [2]uint8{1, 2})

	s := create[struct{}](t, 2)
	set(t, s, 2, struct{}{}, api.OK)
	has(t, s, 2, struct{}{})
	lacks(t, s, 1)

	c := create[api.Config](t, 2)
	set(t, c, 1, api.Config{N: 3, Window: 4}, api.OK)
	has(t, c, 1, api.Config{N: 3, Window: 4})
}

// scribble writes to bytes, and to their spare capacity.
func scribble(b []byte) {
	b = b[:cap(b)]
	for i := range b {
		b[i] = 0x55
	}
}

// ownMemory tells whether a value stays as it is, whatever is written to the one that was given and to those that were returned.
func ownMemory[T any](t *testing.T, fresh func() T, write func(v T)) {
	t.Helper()
	r := create[T](t, 3)
	given := fresh()
	set(t, r, 2, given, api.OK)
	if !reflect.DeepEqual(given, fresh()) {
		t.Errorf("Set changed its argument: %v", given)
	}
	write(given)
	has(t, r, 2, fresh())

	early, _ := r.Get(2)
	v, _ := r.Get(2)
	write(v)
	has(t, r, 2, fresh())
	for _, v := range r.All {
		write(v)
	}
	visits(t, r, pair[T]{2, fresh()})
	has(t, r, 2, fresh())
	if !reflect.DeepEqual(early, fresh()) {
		t.Errorf("what was returned earlier: %v", early)
	}

	// One value at two slots is two values.
	given = fresh()
	set(t, r, 1, given, api.OK)
	set(t, r, 3, given, api.OK)
	v, _ = r.Get(1)
	write(v)
	has(t, r, 3, fresh())
}

func TestRowsOfBytes(t *testing.T) {
	for _, s := range []string{"a", "abc", strings.Repeat("x", api.MaxFrame)} {
		ownMemory(t, func() []byte { return []byte(s) }, scribble)
		ownMemory(t, func() []byte { return append(make([]byte, 0, 2*len(s)+9), s...) }, scribble)
		ownMemory(t, func() any { return []byte(s) }, func(v any) { scribble(v.([]byte)) })
	}

	// One list, written anew for each slot: each has what it held when it was given.
	r := create[[]byte](t, 5)
	b := make([]byte, 3, 64)
	for slot := uint64(1); slot <= 5; slot++ {
		b[0] = byte(slot)
		set(t, r, slot, b, api.OK)
	}
	for slot, v := range r.All {
		if !bytes.Equal(v, []byte{byte(slot), 0, 0}) {
			t.Errorf("%d: %v", slot, v)
		}
	}
}

// Nor is the spare capacity of what is given, or returned, a ring's.
func TestSpareCapacity(t *testing.T) {
	r := create[[]byte](t, 3)
	whole := []byte("0123456789")
	for slot := uint64(1); slot <= 3; slot++ {
		set(t, r, slot, whole[:2*slot], api.OK)
	}
	for slot := uint64(1); slot <= 3; slot++ {
		v, _ := r.Get(slot)
		_ = append(v, "spoilt it"...)
		scribble(v)
	}
	if string(whole) != "0123456789" {
		t.Errorf("the argument was changed: %q", whole)
	}
	visits(t, r, pair[[]byte]{1, []byte("01")}, pair[[]byte]{2, []byte("0123")}, pair[[]byte]{3, []byte("012345")})
}

func TestOtherLists(t *testing.T) {
	texts := func(list []string) {
		for i := range list {
			list[i] = "spoilt"
		}
	}
	ownMemory(t, func() []string { return []string{"a", "", "b"} }, texts)
	ownMemory(t, func() [][]byte { return [][]byte{[]byte("a"), []byte("bc")} }, func(list [][]byte) {
		for i := range list {
			scribble(list[i])
			list[i] = nil
		}
	})
	ownMemory(t, func() [][]byte { return [][]byte{[]byte("a"), []byte("bc")} }, func(list [][]byte) { scribble(list[1]) })
	ownMemory(t, func() api.Vote {
		return api.Vote{Slot: 3, B: api.Ballot{N: 2, R: 1}, Batch: []byte("batch")}
	}, func(v api.Vote) { scribble(v.Batch) })
	ownMemory(t, func() api.Letter {
		return api.Letter{From: 1, To: 2, Bytes: []byte("bytes")}
	}, func(l api.Letter) { scribble(l.Bytes) })
	ownMemory(t, func() api.Cmd {
		return api.Cmd{Client: 1, Seq: 2, Kind: api.Join, Keys: []string{"a", "b"}, N: -3}
	}, func(c api.Cmd) { texts(c.Keys) })
	ownMemory(t, func() api.Entry {
		return api.Entry{Do: api.DoSubmit, R: 1, Pick: 4, Cmd: api.Cmd{Client: 1, Keys: []string{"a", "b"}}}
	}, func(e api.Entry) { texts(e.Cmd.Keys) })
}

// A list that is nil stays one, and so does one within what is given.
func TestNilLists(t *testing.T) {
	r := create[api.Vote](t, 2)
	set(t, r, 1, api.Vote{Slot: 1}, api.OK)
	has(t, r, 1, api.Vote{Slot: 1})

	c := create[api.Cmd](t, 2)
	set(t, c, 1, api.Cmd{Seq: 1}, api.OK)
	has(t, c, 1, api.Cmd{Seq: 1})

	l := create[[][]byte](t, 3)
	set(t, l, 1, nil, api.OK)
	set(t, l, 2, [][]byte{nil, []byte("a")}, api.OK)
	has(t, l, 1, nil)
	has(t, l, 2, [][]byte{nil, []byte("a")})
}

// P1, P7.5: whatever is called, in any order, a ring is as the chapter tells it.

// told is a ring as the chapter tells it.
type told struct {
	base, room uint64
	values     map[uint64]string
}

func (m *told) set(slot uint64, v string) api.Errno {
	if slot <= m.base {
		return api.ErrOutside
	}
	if slot-m.base > m.room {
		return api.ErrFull
	}
	m.values[slot] = v
	return api.OK
}

func (m *told) release(to uint64) api.Errno {
	if to < m.base {
		return api.ErrOutside
	}
	m.base = to
	for slot := range m.values {
		if slot <= to {
			delete(m.values, slot)
		}
	}
	return api.OK
}

func (m *told) pairs() []pair[string] {
	var out []pair[string]
	for slot, v := range m.values {
		out = append(out, pair[string]{slot, v})
	}
	slices.SortFunc(out, func(a, b pair[string]) int {
		if a.slot < b.slot {
			return -1
		}
		return 1
	})
	return out
}

// step does the same with both: by so much below or above the base.
func step(t *testing.T, r *Ring[string], m *told, do byte, by int64) {
	t.Helper()
	slot := m.base + uint64(by)
	if do%4 == 0 {
		release(t, r, slot, m.release(slot))
	} else {
		v := strings.Repeat("v", int(do/4))
		set(t, r, slot, v, m.set(slot, v))
	}
	is(t, r, m.base, m.pairs()...)
}

func TestAnySteps(t *testing.T) {
	source := rand.New(rand.NewSource(1))
	for range 1500 {
		room := 1 + source.Intn(9)
		m := &told{room: uint64(room), values: map[uint64]string{}}
		if source.Intn(3) == 0 {
			m.base = maximum - uint64(source.Intn(30))
		}
		r := behind(t, room, m.base)
		for range 40 {
			step(t, r, m, byte(source.Intn(256)), int64(source.Intn(room+6)-3))
			if source.Intn(20) == 0 {
				step(t, r, m, byte(source.Intn(256)), int64(source.Uint64()))
			}
		}
		if t.Failed() {
			t.Fatal()
		}
	}
}

func FuzzSteps(f *testing.F) {
	f.Add(2, uint64(0), []byte{1, 1, 1, 3, 0, 1, 1, 2})
	f.Add(1, uint64(maximum-1), []byte{1, 1, 0, 1, 1, 1})
	f.Add(4096, uint64(half), []byte{0, 255, 9, 128})
	f.Fuzz(func(t *testing.T, room int, base uint64, steps []byte) {
		r, e := New[string](room)
		if room < 1 || room > 4096 {
			if r != nil || e != api.ErrArg {
				t.Fatalf("New(%d): %v, %v", room, r, e)
			}
			return
		}
		release(t, r, base, api.OK)
		m := &told{base: base, room: uint64(room), values: map[uint64]string{}}
		for i := 0; i+1 < min(len(steps), 200); i += 2 {
			step(t, r, m, steps[i], int64(int8(steps[i+1])))
		}
	})
}
