package ballot

import (
	"bytes"
	"encoding/binary"
	"math"
	"math/big"
	"math/rand"
	"slices"
	"strings"
	"testing"

	"quorate/api"
	"quorate/varint"
)

const most = math.MaxUint64

var none = api.Ballot{}

// of is the ballot n of the replica r.
func of(n uint64, r int) api.Ballot { return api.Ballot{N: n, R: r} }

// numbers are those at which a form gets one byte longer, the least and the greatest ones, with their neighbours.
func numbers() []uint64 {
	out := []uint64{0, 1, 2, 3, 4, 300, most - 2, most - 1, most}
	for bits := 7; bits < 64; bits += 7 {
		p := uint64(1) << bits
		out = append(out, p-1, p, p+1)
	}
	return append(out, 1<<31, 1<<32-1, 1<<32, 1<<62, 1<<63-2)
}

// replicas are all that there are.
func replicas() []int { return []int{0, 1, 2, 3, 4, 5, 6} }

// others are replicas that do not exist.
func others() []int {
	return []int{-1, -2, -7, -128, math.MinInt32, math.MinInt, math.MinInt + 1, 7, 8, 9, 127, 128, 255, 256, 263, 1 << 16, math.MaxInt32, math.MaxInt - 1, math.MaxInt}
}

// some are ballots of numbers and of replicas, of those that do not exist too.
func some() []api.Ballot {
	var l []api.Ballot
	for _, n := range numbers() {
		for _, r := range append(replicas(), others()...) {
			l = append(l, of(n, r))
		}
	}
	return l
}

// exact is one integer for each ballot, in their order: the number stands above 64 bits for the replica.
func exact(b api.Ballot) *big.Int {
	place := new(big.Int).SetUint64(b.N)
	place.Lsh(place, 64)
	replica := new(big.Int).Sub(big.NewInt(int64(b.R)), big.NewInt(math.MinInt64))
	return place.Add(place, replica)
}

// below compares by means of the test's own.
func below(a, b api.Ballot) bool { return exact(a).Cmp(exact(b)) < 0 }

// encoded is a ballot's bytes by means of the library.
func encoded(n, r uint64) string {
	return string(binary.AppendUvarint(binary.AppendUvarint(nil, n), r))
}

// anyBallot is one of few or of many numbers, of a replica that mostly exists.
func anyBallot(source *rand.Rand) api.Ballot {
	n := uint64(source.Intn(5))
	switch source.Intn(4) {
	case 0:
		n = source.Uint64() >> source.Intn(64)
	case 1:
		n = most - n
	}
	r := source.Intn(api.MaxReplicas)
	if source.Intn(10) == 0 {
		r = source.Intn(40) - 20
	}
	return of(n, r)
}

// P14.1: Less

func TestLess(t *testing.T) {
	for _, x := range []struct {
		a, b api.Ballot
		want bool
	}{
		// A number that is less, the same, greater; with a replica that is less, the same, greater.
		{of(2, 1), of(3, 2), true}, {of(2, 1), of(3, 1), true}, {of(2, 2), of(3, 1), true},
		{of(3, 1), of(3, 2), true}, {of(3, 1), of(3, 1), false}, {of(3, 2), of(3, 1), false},
		{of(4, 1), of(3, 2), false}, {of(4, 1), of(3, 1), false}, {of(4, 2), of(3, 1), false},
		// The ballot none.
		{none, none, false}, {none, of(0, 1), true}, {none, of(1, 0), true}, {none, of(most, 6), true}, {of(0, 1), none, false}, {of(1, 0), none, false}, {of(0, 1), of(1, 0), true},
		// The numbers at the ends, and those whose highest bit is 1: none of them is below 0.
		{of(0, 6), of(most, 0), true}, {of(most, 0), of(0, 6), false}, {of(most, 5), of(most, 6), true}, {of(most, 6), of(most, 5), false}, {of(most, 6), of(most, 6), false}, {of(most-1, 6), of(most, 0), true},
		{of(1<<63-1, 0), of(1<<63, 0), true}, {of(1<<63, 0), of(1<<63-1, 0), false}, {of(1<<63, 0), of(1, 0), false}, {of(1<<63, 0), none, false},
		{of(1<<32, 0), of(1, 1), false}, {of(1, 1), of(1<<32, 0), true}, {of(1<<32, 1), of(1<<32, 2), true},
		// Replicas that do not exist are compared like any others.
		{of(3, -1), of(3, 0), true}, {of(3, 0), of(3, -1), false}, {of(3, 6), of(3, 7), true}, {of(3, 7), of(3, 6), false}, {of(0, -1), none, true}, {none, of(0, -1), false}, {of(3, math.MinInt), of(3, math.MaxInt), true}, {of(3, math.MaxInt), of(3, math.MinInt), false}, {of(3, math.MaxInt), of(4, math.MinInt), true}, {of(3, 7), of(3, 7), false}, {of(3, 256), of(3, 0), false},
	} {
		if got := Less(x.a, x.b); got != x.want {
			t.Errorf("Less(%v, %v): %v", x.a, x.b, got)
		}
	}
}

func TestLessOfEachTwo(t *testing.T) {
	l := some()
	for _, a := range l {
		for _, b := range l {
			if got, want := Less(a, b), below(a, b); got != want {
				t.Fatalf("Less(%v, %v): %v", a, b, got)
			}
		}
	}
}

func TestLessOfRandomOnes(t *testing.T) {
	source := rand.New(rand.NewSource(1))
	for range 50000 {
		a, b := anyBallot(source), anyBallot(source)
		if got, want := Less(a, b), below(a, b); got != want {
			t.Fatalf("Less(%v, %v): %v", a, b, got)
		}
	}
}

// P14.1: Max

func TestMax(t *testing.T) {
	for i, x := range []struct {
		l    []api.Ballot
		want api.Ballot
	}{
		{nil, none}, {[]api.Ballot{}, none}, {[]api.Ballot{none}, none}, {[]api.Ballot{none, none, none}, none},
		{[]api.Ballot{of(3, 1)}, of(3, 1)}, {[]api.Ballot{of(0, 2)}, of(0, 2)}, {[]api.Ballot{of(most, 6)}, of(most, 6)},
		// The greatest one first, last, in the middle, and more than once.
		{[]api.Ballot{of(3, 1), of(1, 0), of(3, 0)}, of(3, 1)}, {[]api.Ballot{of(1, 0), of(3, 0), of(3, 1)}, of(3, 1)}, {[]api.Ballot{of(1, 0), of(3, 1), of(3, 0)}, of(3, 1)},
		{[]api.Ballot{of(3, 1), of(1, 0), of(3, 1)}, of(3, 1)}, {[]api.Ballot{of(3, 1), of(3, 1)}, of(3, 1)}, {[]api.Ballot{of(1, 6), of(3, 1), of(3, 1), of(2, 6)}, of(3, 1)},
		// By the number first, then by the replica.
		{[]api.Ballot{of(1, 6), of(2, 0)}, of(2, 0)}, {[]api.Ballot{of(2, 0), of(1, 6)}, of(2, 0)}, {[]api.Ballot{of(2, 0), of(2, 6), of(2, 3)}, of(2, 6)}, {[]api.Ballot{of(2, 5), of(1, 6), of(2, 4), of(0, 6)}, of(2, 5)},
		{[]api.Ballot{none, of(0, 1)}, of(0, 1)}, {[]api.Ballot{of(0, 1), none}, of(0, 1)}, {[]api.Ballot{none, of(1, 0), none}, of(1, 0)},
		{[]api.Ballot{of(most, 0), of(1<<63, 6), of(1, 6)}, of(most, 0)}, {[]api.Ballot{of(1<<63-1, 6), of(1<<63, 0)}, of(1<<63, 0)}, {[]api.Ballot{of(most, 5), of(most, 6)}, of(most, 6)},
		// Replicas that do not exist: it is one of the given ones, though none is above it.
		{[]api.Ballot{of(0, -1)}, of(0, -1)}, {[]api.Ballot{of(0, -2), of(0, -1), of(0, -3)}, of(0, -1)}, {[]api.Ballot{of(0, -1), none}, none}, {[]api.Ballot{of(2, 7), of(2, 6)}, of(2, 7)}, {[]api.Ballot{of(2, math.MinInt), of(2, math.MinInt)}, of(2, math.MinInt)},
	} {
		if got := Max(x.l...); got != x.want {
			t.Errorf("%d: Max of %v: %v, want %v", i, x.l, got, x.want)
		}
	}
	if got := Max(of(1, 0), of(3, 1), of(3, 0)); got != of(3, 1) {
		t.Errorf("of three: %v", got)
	}
	if got := Max(); got != none {
		t.Errorf("of no ballots: %v", got)
	}
}

func TestMaxAtEachPlace(t *testing.T) {
	for n := 1; n <= 12; n++ {
		for at := range n {
			l := slices.Repeat([]api.Ballot{of(4, 2)}, n)
			for i := range l {
				l[i].R = i % 3
			}
			l[at] = of(4, 3)
			if got := Max(l...); got != of(4, 3) {
				t.Errorf("at %d of %d: %v", at, n, got)
			}
			l[at] = of(5, 0)
			if got := Max(l...); got != of(5, 0) {
				t.Errorf("at %d of %d: %v", at, n, got)
			}
		}
	}
}

func TestMaxOfMany(t *testing.T) {
	source := rand.New(rand.NewSource(2))
	for range 5000 {
		var l []api.Ballot
		for range source.Intn(12) {
			l = append(l, anyBallot(source))
		}
		got := Max(l...)
		if len(l) > 0 && !slices.Contains(l, got) || len(l) == 0 && got != none {
			t.Fatalf("Max of %v: %v is none of them", l, got)
		}
		for _, b := range l {
			if below(got, b) || Less(got, b) {
				t.Fatalf("Max of %v: %v, and %v is above it", l, got, b)
			}
		}
	}
	long := slices.Repeat([]api.Ballot{of(1, 1), of(2, 6), of(3, 0)}, 100000)
	long[123456] = of(3, 1)
	if got := Max(long...); got != of(3, 1) {
		t.Errorf("of many: %v", got)
	}
}

// P14.2

// next is one row: what a replica's next one above a ballot is.
type next struct {
	b    api.Ballot
	r    int
	want api.Ballot
	e    api.Errno
}

func checkNext(t *testing.T, rows []next) {
	t.Helper()
	for _, x := range rows {
		if got, e := Next(x.b, x.r); got != x.want || e != x.e {
			t.Errorf("Next(%v, %d): %v, %v, want %v, %v", x.b, x.r, got, e, x.want, x.e)
		}
	}
}

func TestNextOfExamples(t *testing.T) {
	checkNext(t, []next{
		{none, 0, of(1, 0), api.OK}, {none, 2, of(1, 2), api.OK}, {of(3, 1), 1, of(4, 1), api.OK}, {of(3, 1), 2, of(3, 2), api.OK}, {of(3, 1), 0, of(4, 0), api.OK},
	})
}

func TestNextForEachReplica(t *testing.T) {
	for _, r := range replicas() {
		checkNext(t, []next{{none, r, of(1, r), api.OK}})
		for _, n := range []uint64{1, 2, 127, 300, 1 << 32, 1<<63 - 1, 1 << 63, most - 1} {
			for _, given := range replicas() {
				want := of(n+1, r)
				if given < r {
					want = of(n, r)
				}
				checkNext(t, []next{{of(n, given), r, want, api.OK}})
			}
		}
	}
}

func TestNextHasANumberAboveZero(t *testing.T) {
	for _, r := range replicas() {
		// The number 0 of another replica, lesser or greater, counts as below all that may be.
		for _, given := range append(replicas(), others()...) {
			checkNext(t, []next{{of(0, given), r, of(1, r), api.OK}})
		}
	}
}

func TestNextAboveOnesOwn(t *testing.T) {
	for _, r := range replicas() {
		b := none
		for n := uint64(1); n < 200; n++ {
			got, e := Next(b, r)
			if got != of(n, r) || e != api.OK {
				t.Fatalf("Next(%v, %d): %v, %v", b, r, got, e)
			}
			b = got
		}
	}
}

func TestNextOfReplicasThatDoNotExist(t *testing.T) {
	for _, r := range others() {
		for _, b := range []api.Ballot{none, of(3, 1), of(0, r), of(7, r), of(most, 6), of(most, r), of(most, 0)} {
			// That there is no such replica comes ahead of that there is no number.
			checkNext(t, []next{{b, r, none, api.ErrArg}})
		}
	}
	checkNext(t, []next{
		{of(3, 1), -1, none, api.ErrArg}, {of(3, 1), api.MaxReplicas, none, api.ErrArg}, {of(3, 1), api.MaxReplicas - 1, of(3, 6), api.OK}, {of(3, 1), 0, of(4, 0), api.OK},
	})
}

func TestNextWhereNoNumberIsLeft(t *testing.T) {
	for _, r := range replicas() {
		for _, given := range replicas() {
			want := next{of(most, given), r, none, api.ErrFull}
			if given < r {
				want = next{of(most, given), r, of(most, r), api.OK}
			}
			checkNext(t, []next{want})
			// One number below there is still one for each.
			want = next{of(most-1, given), r, of(most, r), api.OK}
			if given < r {
				want.want = of(most-1, r)
			}
			checkNext(t, []next{want})
		}
	}
}

func TestNextAboveReplicasThatDoNotExist(t *testing.T) {
	checkNext(t, []next{
		{of(3, -1), 0, of(3, 0), api.OK}, {of(3, math.MinInt), 0, of(3, 0), api.OK}, {of(3, -1), 6, of(3, 6), api.OK},
		{of(3, 7), 6, of(4, 6), api.OK}, {of(3, math.MaxInt), 6, of(4, 6), api.OK}, {of(3, 7), 0, of(4, 0), api.OK},
		{of(most, -1), 0, of(most, 0), api.OK}, {of(most, math.MinInt), 6, of(most, 6), api.OK}, {of(most, 7), 6, none, api.ErrFull}, {of(most, math.MaxInt), 0, none, api.ErrFull}, {of(most-1, 7), 6, of(most, 6), api.OK},
		{of(0, -1), 0, of(1, 0), api.OK}, {of(0, 7), 6, of(1, 6), api.OK},
	})
}

// leastAbove finds a replica's next one by trying numbers, the lesser ones first.
func leastAbove(b api.Ballot, r int) (api.Ballot, bool) {
	numbers := []uint64{1, 2, 3}
	for d := range uint64(5) {
		numbers = append(numbers, b.N-2+d) // those that wrap around are tried as well, in their place
	}
	slices.Sort(numbers)
	for _, n := range numbers {
		if n > 0 && below(b, of(n, r)) {
			return of(n, r), true
		}
	}
	return none, false
}

func TestNextIsTheLeast(t *testing.T) {
	l := some()
	source := rand.New(rand.NewSource(3))
	for range 5000 {
		l = append(l, anyBallot(source))
	}
	full := 0
	for _, b := range l {
		for _, r := range replicas() {
			want, is := leastAbove(b, r)
			got, e := Next(b, r)
			if got != want || (e == api.OK) != is || e != api.OK && e != api.ErrFull {
				t.Fatalf("Next(%v, %d): %v, %v, want %v, %v", b, r, got, e, want, is)
			}
			if !is {
				full++
			}
		}
	}
	if full == 0 {
		t.Error("there was a number left each time")
	}
}

// P14.3: Put

func TestPutOfExample(t *testing.T) {
	if got := string(Put(nil, of(300, 2))); got != "\xac\x02\x02" {
		t.Errorf("%x", got)
	}
}

func TestPut(t *testing.T) {
	for _, x := range []struct {
		b    api.Ballot
		want string
	}{
		{none, "\x00\x00"}, {of(0, 6), "\x00\x06"}, {of(1, 0), "\x01\x00"}, {of(127, 1), "\x7f\x01"}, {of(128, 1), "\x80\x01\x01"}, {of(16383, 5), "\xff\x7f\x05"}, {of(16384, 5), "\x80\x80\x01\x05"},
		{of(1<<63, 3), strings.Repeat("\x80", 9) + "\x01\x03"}, {of(most, 6), strings.Repeat("\xff", 9) + "\x01\x06"},
	} {
		if got := string(Put(nil, x.b)); got != x.want {
			t.Errorf("Put(%v): %x, want %x", x.b, got, x.want)
		}
	}
}

// given are bytes that a ballot is put behind.
func given() []string {
	return []string{"", "x", "\x00", "\x80", "\xac\x02\x02", strings.Repeat("g", 1000)}
}

func TestPutBehindBytes(t *testing.T) {
	sizes := map[int]int{}
	for _, n := range numbers() {
		for _, r := range replicas() {
			for _, b := range given() {
				want := b + encoded(n, uint64(r))
				if got := string(Put([]byte(b), of(n, r))); got != want {
					t.Errorf("Put(%d bytes, %d of %d): %x, want %x", len(b), n, r, got, want)
				}
				sizes[len(want)-len(b)]++
			}
		}
	}
	if len(sizes) != 10 {
		t.Errorf("not each size of number: %v", sizes)
	}
}

func TestPutBehindNoBytesOrEmptyOnes(t *testing.T) {
	for _, b := range []api.Ballot{none, of(300, 2), of(most, 6)} {
		if !bytes.Equal(Put(nil, b), Put([]byte{}, b)) {
			t.Errorf("%v: a nil list is otherwise than an empty one", b)
		}
	}
}

// What is put of a replica that does not exist is read as no ballot, and it does not take the bytes that were given.
func TestPutOfReplicasThatDoNotExist(t *testing.T) {
	for _, r := range others() {
		for _, n := range numbers() {
			b := Put([]byte("x"), of(n, r))
			if !bytes.HasPrefix(b, []byte("x")) {
				t.Errorf("Put(x, %d of %d): %x", n, r, b)
			}
			if got, e := Take(varint.NewReader(b[1:], 0)); got != none || e != api.ErrForm {
				t.Errorf("%d of %d was read: %v, %v", n, r, got, e)
			}
		}
	}
}

// P14.3: Take

// takes holds that bytes begin with a ballot, behind which so many are left.
func takes(t testing.TB, b string, want api.Ballot, left string) {
	t.Helper()
	r := varint.NewReader([]byte(b), 0)
	if got, e := Take(r); got != want || e != api.OK || r.Err() != api.OK {
		t.Errorf("Take of %x: %v, %v, %v, want %v", b, got, e, r.Err(), want)
	}
	for i := range len(left) {
		if c := r.Byte(); c != left[i] || r.Err() != api.OK {
			t.Errorf("Take of %x: %x is left at %d", b, c, i)
		}
	}
	if e := r.Done(); e != api.OK {
		t.Errorf("Take of %x: more is left: %v", b, e)
	}
}

// refuses holds that bytes do not begin with a ballot, and what the reader's error is then.
func refuses(t testing.TB, b string, want, then api.Errno) {
	t.Helper()
	for _, limit := range []int{-1, 0, 64, math.MaxInt} {
		r := varint.NewReader([]byte(b), limit)
		if got, e := Take(r); got != none || e != want || r.Err() != then {
			t.Errorf("Take of %x: %v, %v, %v, want %v, %v", b, got, e, r.Err(), want, then)
		}
	}
}

func TestTake(t *testing.T) {
	for _, n := range numbers() {
		for _, r := range replicas() {
			for _, left := range []string{"", "x", "\x00", "\x80", "\xff\xff", "\x80\x00"} {
				takes(t, encoded(n, uint64(r))+left, of(n, r), left)
			}
		}
	}
}

func TestTakeOfWhatWasPut(t *testing.T) {
	var b []byte
	var l []api.Ballot
	for _, n := range numbers() {
		for _, r := range replicas() {
			l = append(l, of(n, r))
			b = Put(b, of(n, r))
		}
	}
	r := varint.NewReader(b, 0)
	for i, want := range l {
		if got, e := Take(r); got != want || e != api.OK {
			t.Fatalf("%d: %v, %v, want %v", i, got, e, want)
		}
	}
	if e := r.Done(); e != api.OK {
		t.Errorf("something is left: %v", e)
	}
	if got, e := Take(r); got != none || e != api.ErrShort {
		t.Errorf("behind all: %v, %v", got, e)
	}
}

func TestTakeBetweenOtherItems(t *testing.T) {
	b := Put(varint.Text(varint.Uint(nil, 9), "ab"), of(300, 2))
	b = Put(varint.Int(b, -1), of(most, 6))
	r := varint.NewReader(b, 2)
	if n, s := r.Uint(), r.Text(); n != 9 || s != "ab" {
		t.Errorf("ahead: %d, %q", n, s)
	}
	if got, e := Take(r); got != of(300, 2) || e != api.OK {
		t.Errorf("the first one: %v, %v", got, e)
	}
	if n := r.Int(); n != -1 {
		t.Errorf("between: %d", n)
	}
	if got, e := Take(r); got != of(most, 6) || e != api.OK || r.Done() != api.OK {
		t.Errorf("the second one: %v, %v, %v", got, e, r.Err())
	}
}

func TestTakeOfBytesThatEnd(t *testing.T) {
	for _, n := range numbers() {
		for _, replica := range []uint64{0, 6, 7, 127, 128, 300, 1 << 63, most} {
			whole := encoded(n, replica)
			for end := range len(whole) {
				refuses(t, whole[:end], api.ErrShort, api.ErrShort)
			}
		}
	}
}

func TestTakeOfNumbersThatAreNone(t *testing.T) {
	for _, number := range []string{
		"\x80\x00", "\x81\x00", "\x81\x80\x00", strings.Repeat("\x80", 9) + "\x00", strings.Repeat("\xff", 9) + "\x02", strings.Repeat("\xff", 9) + "\x7f", strings.Repeat("\xff", 10), strings.Repeat("\xff", 10) + "\x01", strings.Repeat("\x80", 11), strings.Repeat("\x80", 100),
	} {
		for _, left := range []string{"", "x", "\x00\x00"} {
			refuses(t, number+left, api.ErrForm, api.ErrForm)
			refuses(t, "\x05"+number+left, api.ErrForm, api.ErrForm)
			refuses(t, "\xac\x02"+number+left, api.ErrForm, api.ErrForm)
		}
		refuses(t, number+"\x07", api.ErrForm, api.ErrForm)
	}
}

// A replica that does not exist is no error of the reader: its number is one.
func TestTakeOfReplicasThatDoNotExist(t *testing.T) {
	for _, replica := range []uint64{7, 8, 9, 127, 128, 255, 256, 262, 1 << 16, 1<<31 - 1, 1 << 31, 1<<32 - 1, 1 << 32, 1<<32 + 6, 1<<63 - 1, 1 << 63, 1<<63 + 6, most - 6, most} {
		for _, n := range []uint64{0, 1, 300, most} {
			refuses(t, encoded(n, replica), api.ErrForm, api.OK)
			refuses(t, encoded(n, replica)+"\x05", api.ErrForm, api.OK)
		}
		// Both of its numbers were read.
		r := varint.NewReader([]byte(encoded(5, replica)+"\x09"), 0)
		if _, e := Take(r); e != api.ErrForm || r.Uint() != 9 || r.Done() != api.OK {
			t.Errorf("behind the replica %d: %v, %v", replica, e, r.Err())
		}
	}
	for _, r := range replicas() {
		takes(t, encoded(5, uint64(r)), of(5, r), "")
	}
}

func TestTakeOfReaderThatHadAnError(t *testing.T) {
	for i, x := range []struct {
		spoil func(r *varint.Reader)
		want  api.Errno
	}{
		{func(r *varint.Reader) { r.Text() }, api.ErrForm},
		{func(r *varint.Reader) { r.Done() }, api.ErrForm},
		{func(r *varint.Reader) {
			for range 100 {
				r.Byte()
			}
		}, api.ErrShort},
	} {
		r := varint.NewReader([]byte("\x05\x06\x05\x06"), 1)
		x.spoil(r)
		for range 3 {
			if got, e := Take(r); got != none || e != x.want || r.Err() != x.want {
				t.Errorf("%d: %v, %v, %v, want %v", i, got, e, r.Err(), x.want)
			}
		}
	}
}

func TestTakeOfNilReader(t *testing.T) {
	for range 2 {
		if got, e := Take(nil); got != none || e != api.ErrNil {
			t.Errorf("%v, %v", got, e)
		}
	}
}

func TestTakeOfReaderThatNoCallMade(t *testing.T) {
	if got, e := Take(new(varint.Reader)); got != none || e != api.ErrShort {
		t.Errorf("%v, %v", got, e)
	}
}

// decoded is what bytes are a ballot of, how many of them, and the error, by means of the test's own.
func decoded(b []byte) (api.Ballot, int, api.Errno) {
	end := 0
	number := func() (uint64, api.Errno) {
		n, size := binary.Uvarint(b[end:])
		if size < 0 || size > 1 && b[end+size-1] == 0 || size == 0 && len(b)-end >= 10 {
			return 0, api.ErrForm
		}
		if size == 0 {
			return 0, api.ErrShort
		}
		end += size
		return n, api.OK
	}
	n, e := number()
	if e != api.OK {
		return none, 0, e
	}
	replica, e := number()
	if e != api.OK {
		return none, 0, e
	}
	if replica > 6 {
		return none, end, api.ErrForm
	}
	return of(n, int(replica)), end, api.OK
}

// takesAsDecoded holds Take against the decoder, and returns the error.
func takesAsDecoded(t testing.TB, b []byte) api.Errno {
	t.Helper()
	before := slices.Clone(b)
	r := varint.NewReader(b, 0)
	got, e := Take(r)
	want, end, wantE := decoded(b)
	if got != want || e != wantE || !bytes.Equal(b, before) {
		t.Fatalf("Take of %x: %v, %v, want %v, %v", b, got, e, want, wantE)
	}
	if r.Err() != api.OK {
		if r.Err() != e {
			t.Errorf("Take of %x: %v, and the reader has %v", b, e, r.Err())
		}
		return e
	}
	for _, c := range b[end:] {
		if r.Byte() != c {
			t.Errorf("Take of %x: other bytes are left than from %d on", b, end)
		}
	}
	if r.Done() != api.OK {
		t.Errorf("Take of %x: the reader is not at the end: %v", b, r.Err())
	}
	if put := Put(nil, got); e == api.OK && !bytes.Equal(put, b[:end]) {
		t.Errorf("Take of %x: put as %x", b, put)
	}
	return e
}

func FuzzTake(f *testing.F) {
	for _, b := range []string{"", "\x00", "\x00\x00", "\x01\x06", "\x01\x07", "\xac\x02\x02", "\xac\x02\x82\x00", encoded(most, 6), encoded(6, most), strings.Repeat("\xff", 20)} {
		f.Add([]byte(b))
	}
	f.Fuzz(func(t *testing.T, b []byte) { takesAsDecoded(t, b) })
}

func TestTakeOfRandomBytes(t *testing.T) {
	source := rand.New(rand.NewSource(4))
	count := map[api.Errno]int{}
	for range 50000 {
		b := []byte(encoded(source.Uint64()>>source.Intn(64), uint64(source.Intn(10))))
		if source.Intn(10) == 0 {
			b = []byte(encoded(uint64(source.Intn(9)), source.Uint64()>>source.Intn(64)))
		}
		for range source.Intn(3) {
			switch at := source.Intn(len(b) + 1); {
			case at == len(b):
				b = append(b, byte(source.Intn(256)))
			case source.Intn(2) == 0:
				b[at] ^= 1 << source.Intn(8)
			default:
				b = slices.Delete(b, at, at+1)
			}
		}
		count[takesAsDecoded(t, b)]++
		if t.Failed() {
			return
		}
	}
	for _, e := range []api.Errno{api.OK, api.ErrShort, api.ErrForm} {
		if count[e] < 100 {
			t.Errorf("%v: only %d of them", e, count[e])
		}
	}
}

func TestTakeOfEachTwoBytes(t *testing.T) {
	for a := range 256 {
		for b := range 256 {
			takesAsDecoded(t, []byte{byte(a), byte(b)})
		}
		takesAsDecoded(t, []byte{byte(a)})
	}
}

// P14.4

// few are ballots that are near to one another, and those at the ends.
func few() []api.Ballot {
	var l []api.Ballot
	for _, n := range []uint64{0, 1, 2, 3, 1 << 63, most - 1, most} {
		for _, r := range []int{-1, 0, 1, 2, 5, 6, 7} {
			l = append(l, of(n, r))
		}
	}
	return l
}

func TestOneOfTwoIsBelow(t *testing.T) {
	for _, l := range [][]api.Ballot{few(), some()} {
		for i, a := range l {
			for j, b := range l {
				if up, down := Less(a, b), Less(b, a); (i == j) != (!up && !down) || up && down {
					t.Fatalf("%v and %v: %v, %v", a, b, up, down)
				}
			}
		}
	}
}

func TestWhatIsBelowWhatIsBelow(t *testing.T) {
	l := few()
	for _, a := range l {
		for _, b := range l {
			for _, c := range l {
				if Less(a, b) && Less(b, c) && !Less(a, c) {
					t.Fatalf("%v, %v, %v", a, b, c)
				}
			}
		}
	}
}

func TestMaxAndLessAgree(t *testing.T) {
	l := few()
	for _, a := range l {
		for _, b := range l {
			want := a
			if Less(a, b) {
				want = b
			}
			if Max(a, b) != want || Max(b, a) != want {
				t.Errorf("%v and %v: %v, %v", a, b, Max(a, b), Max(b, a))
			}
		}
	}
}

func TestNoTwoReplicasHaveABallotInCommon(t *testing.T) {
	whose := map[api.Ballot]int{}
	source := rand.New(rand.NewSource(5))
	l := some()
	for range 2000 {
		l = append(l, anyBallot(source))
	}
	for _, b := range l {
		for _, r := range replicas() {
			got, e := Next(b, r)
			if e != api.OK {
				continue
			}
			if got.R != r || got.N == 0 || got == none {
				t.Fatalf("Next(%v, %d): %v", b, r, got)
			}
			if other, is := whose[got]; is && other != r {
				t.Fatalf("%v is one of %d and of %d", got, other, r)
			}
			whose[got] = r
		}
	}
}

// Several replicas go on from one another's: each next one is above all earlier ones, and is no other one's.
func TestNextOnesIncrease(t *testing.T) {
	source := rand.New(rand.NewSource(6))
	for _, from := range []api.Ballot{none, of(300, 2), of(most-500, 6)} {
		last, seen := from, map[api.Ballot]bool{}
		for range 400 {
			r := source.Intn(api.MaxReplicas)
			got, e := Next(last, r)
			if e != api.OK || !Less(last, got) || seen[got] || got.R != r {
				t.Fatalf("Next(%v, %d): %v, %v", last, r, got, e)
			}
			seen[got] = true
			last = got
		}
	}
}

func TestNoneLiesBetween(t *testing.T) {
	for _, b := range few() {
		for _, r := range replicas() {
			got, e := Next(b, r)
			for _, n := range []uint64{1, 2, 3, 4, 1<<63 - 1, 1 << 63, 1<<63 + 1, most - 2, most - 1, most} {
				own := of(n, r)
				if e == api.OK && Less(b, own) && Less(own, got) {
					t.Errorf("Next(%v, %d): %v, and %v lies between", b, r, got, own)
				}
				if e == api.ErrFull && Less(b, own) {
					t.Errorf("Next(%v, %d): %v, and %v is above", b, r, e, own)
				}
			}
		}
	}
}

// R2, R3

func TestMaxLeavesItsArguments(t *testing.T) {
	whole := []api.Ballot{of(3, 0), of(3, 1), of(1, 6), of(9, 9), of(8, 8)}
	before := slices.Clone(whole)
	l := whole[:3]
	if got := Max(l...); got != of(3, 1) {
		t.Errorf("more than the given ones: %v", got)
	}
	if !slices.Equal(whole, before) {
		t.Errorf("changed: %v", whole)
	}
	l[1] = of(7, 7)
	if got := Max(before[:3]...); got != of(3, 1) {
		t.Errorf("later: %v", got)
	}
	if got := Max(); got != none {
		t.Errorf("of no ballots: %v", got)
	}
}

// roomy is bytes with spare capacity that holds what must stay as it is.
func roomy(s string) (b, whole []byte) {
	whole = append([]byte(s), bytes.Repeat([]byte{0xee}, 40)...)
	return whole[:len(s):len(whole)], whole
}

func TestPutLeavesItsArguments(t *testing.T) {
	for _, s := range given() {
		for _, x := range []api.Ballot{none, of(300, 2), of(most, 6), of(5, -1), of(5, 7)} {
			b, whole := roomy(s)
			before := slices.Clone(whole)
			first := Put(b, x)
			want := slices.Clone(first)
			if !bytes.Equal(whole, before) {
				t.Errorf("Put(%v) changed the bytes: %x", x, whole)
			}
			for i := range first[:cap(first)] {
				first[:cap(first)][i] = 0x55
			}
			if !bytes.Equal(whole, before) {
				t.Errorf("the result of Put(%v) shares memory with the bytes", x)
			}
			if again := Put(b, x); !bytes.Equal(again, want) {
				t.Errorf("Put(%v): %x, and again %x", x, want, again)
			}
		}
	}
}

func TestTakeKeepsNoArgument(t *testing.T) {
	b, whole := roomy("\xac\x02\x02\x05\x06")
	before := slices.Clone(whole)
	r := varint.NewReader(b, 0)
	first, _ := Take(r)
	if !bytes.Equal(whole, before) {
		t.Errorf("changed: %x", whole)
	}
	clear(whole)
	if second, e := Take(r); first != of(300, 2) || second != of(5, 6) || e != api.OK {
		t.Errorf("%v, %v, %v", first, second, e)
	}
}

func TestSameCallsSameResults(t *testing.T) {
	type results struct {
		less bool
		max  api.Ballot
		next api.Ballot
		e    api.Errno
		put  string
		take api.Ballot
	}
	source := rand.New(rand.NewSource(7))
	var pairs [][2]api.Ballot
	for range 500 {
		pairs = append(pairs, [2]api.Ballot{anyBallot(source), anyBallot(source)})
	}
	all := func(a, b api.Ballot) results {
		x := results{less: Less(a, b), max: Max(a, b), put: string(Put([]byte("x"), a))}
		x.next, x.e = Next(a, b.R)
		x.take, _ = Take(varint.NewReader(Put(nil, b), 0))
		return x
	}
	var first []results
	for _, p := range pairs {
		first = append(first, all(p[0], p[1]))
	}
	for _, i := range source.Perm(len(pairs)) {
		if again := all(pairs[i][0], pairs[i][1]); again != first[i] {
			t.Errorf("%v: %+v, and again %+v", pairs[i], first[i], again)
		}
	}
}
