package disk

import (
	"bytes"
	"math"
	"math/rand"
	"slices"
	"testing"

	"quorate/api"
)

// is tells whether a disk has these bytes, so many of them synced, and power or not.
func is(t *testing.T, d *Disk, want string, synced int, dead bool) {
	t.Helper()
	if got := d.Bytes(); string(got) != want || d.Synced() != synced || d.Dead() != dead {
		t.Errorf("%q, %d synced, dead %v, want %q, %d, %v", got, d.Synced(), d.Dead(), want, synced, dead)
	}
}

func errno(t *testing.T, name string, got, want api.Errno) {
	t.Helper()
	if got != want {
		t.Errorf("%s: %v, want %v", name, got, want)
	}
}

func appends(t *testing.T, d *Disk, s string, want api.Errno) {
	t.Helper()
	if e := d.Append([]byte(s)); e != want {
		t.Errorf("Append of %q: %v, want %v", s, e, want)
	}
}

func syncs(t *testing.T, d *Disk, want api.Errno) {
	t.Helper()
	errno(t, "Sync", d.Sync(), want)
}

func cuts(t *testing.T, d *Disk, n int, want api.Errno) {
	t.Helper()
	if e := d.Cut(n); e != want {
		t.Errorf("Cut(%d): %v, want %v", n, e, want)
	}
}

func fuses(t *testing.T, d *Disk, n int, want api.Errno) {
	t.Helper()
	if e := d.Fuse(n); e != want {
		t.Errorf("Fuse(%d): %v, want %v", n, e, want)
	}
}

func crashes(t *testing.T, d *Disk, keep int, want api.Errno) {
	t.Helper()
	if e := d.Crash(keep); e != want {
		t.Errorf("Crash(%d): %v, want %v", keep, e, want)
	}
}

func turns(t *testing.T, d *Disk, at int, want api.Errno) {
	t.Helper()
	if e := d.Turn(at); e != want {
		t.Errorf("Turn(%d): %v, want %v", at, e, want)
	}
}

func restarts(t *testing.T, d *Disk, want api.Errno) {
	t.Helper()
	errno(t, "Restart", d.Restart(), want)
}

// with is a disk of bytes that are synced and bytes that are not.
func with(t *testing.T, synced, loose string) *Disk {
	t.Helper()
	d := New()
	appends(t, d, synced, api.OK)
	syncs(t, d, api.OK)
	appends(t, d, loose, api.OK)
	is(t, d, synced+loose, len(synced), false)
	return d
}

// left tells how much of a fuse is left, and uses it up.
func left(t *testing.T, d *Disk, want int) {
	t.Helper()
	before := len(d.Bytes())
	e := d.Append(make([]byte, want+100))
	if got := len(d.Bytes()) - before; got != want || e != api.ErrTorn || !d.Dead() {
		t.Errorf("%d bytes of the fuse were left, %v, dead %v, want %d", got, e, d.Dead(), want)
	}
}

// none tells whether there is no fuse, whatever is appended.
func none(t *testing.T, d *Disk) {
	t.Helper()
	before := len(d.Bytes())
	for _, n := range []int{0, 1, 2, 100, 10000} {
		if e := d.Append(make([]byte, n)); e != api.OK || d.Dead() {
			t.Errorf("Append of %d bytes without a fuse: %v", n, e)
		}
	}
	if got := len(d.Bytes()) - before; got != 10103 {
		t.Errorf("%d bytes were appended", got)
	}
}

// P5.1

func TestExamples(t *testing.T) {
	d := New()
	appends(t, d, "ab", api.OK)
	syncs(t, d, api.OK)
	appends(t, d, "cd", api.OK)
	crashes(t, d, 1, api.OK)
	is(t, d, "abc", 2, true)

	d = New()
	fuses(t, d, 3, api.OK)
	appends(t, d, "ab", api.OK)
	appends(t, d, "cd", api.ErrTorn)
	is(t, d, "abc", 0, true)
}

func TestInitially(t *testing.T) {
	d := New()
	is(t, d, "", 0, false)
	none(t, d)
}

func TestAppend(t *testing.T) {
	d := New()
	appends(t, d, "ab", api.OK)
	is(t, d, "ab", 0, false)
	appends(t, d, "c", api.OK)
	is(t, d, "abc", 0, false)
	syncs(t, d, api.OK)
	is(t, d, "abc", 3, false)
	appends(t, d, "\x00\xff", api.OK)
	is(t, d, "abc\x00\xff", 3, false)
}

func TestAppendOfNoBytes(t *testing.T) {
	d := with(t, "ab", "c")
	for _, b := range [][]byte{nil, {}} {
		errno(t, "Append of no bytes", d.Append(b), api.OK)
		is(t, d, "abc", 2, false)
	}
	for _, n := range []int{0, 1, 5} {
		d = with(t, "ab", "c")
		fuses(t, d, n, api.OK)
		for _, b := range [][]byte{nil, {}} {
			errno(t, "Append of no bytes, with a fuse", d.Append(b), api.OK)
			is(t, d, "abc", 2, false)
		}
		left(t, d, n)
		for _, b := range [][]byte{nil, {}} {
			errno(t, "Append of no bytes, without power", d.Append(b), api.ErrDead)
		}
	}
}

// Whatever a fuse has, and whatever is appended: that much is there, and no more.
func TestFuseOfEachLength(t *testing.T) {
	whole := "0123456789"
	for fuse := range 10 {
		for n := range 11 {
			d := with(t, "ab", "c")
			fuses(t, d, fuse, api.OK)
			if fuse < n {
				appends(t, d, whole[:n], api.ErrTorn)
				is(t, d, "abc"+whole[:fuse], 2, true)
				restarts(t, d, api.OK)
				is(t, d, "abc"+whole[:fuse], 2, false)
				none(t, d)
			} else {
				appends(t, d, whole[:n], api.OK)
				is(t, d, "abc"+whole[:n], 2, false)
				left(t, d, fuse-n)
			}
		}
	}
}

func TestFuseIsReduced(t *testing.T) {
	d := New()
	fuses(t, d, 10, api.OK)
	for _, s := range []string{"abc", "", "d", "efgh", ""} {
		appends(t, d, s, api.OK)
	}
	is(t, d, "abcdefgh", 0, false)
	appends(t, d, "ijkl", api.ErrTorn)
	is(t, d, "abcdefghij", 0, true)
}

// One that was used up to its end is a fuse of no bytes: the next byte is the one that fails.
func TestFuseThatIsUsedUp(t *testing.T) {
	d := New()
	fuses(t, d, 2, api.OK)
	appends(t, d, "ab", api.OK)
	is(t, d, "ab", 0, false)
	appends(t, d, "", api.OK)
	syncs(t, d, api.OK)
	is(t, d, "ab", 2, false)
	appends(t, d, "c", api.ErrTorn)
	is(t, d, "ab", 2, true)
	appends(t, d, "d", api.ErrDead)
	is(t, d, "ab", 2, true)
}

// A fuse counts what is written: it is as it was behind every other call, also one that is refused.
func TestOnlyAppendUsesAFuseUp(t *testing.T) {
	d := with(t, "ab", "cdef")
	fuses(t, d, 3, api.OK)
	syncs(t, d, api.OK)
	appends(t, d, "g", api.OK)
	cuts(t, d, 6, api.OK)
	cuts(t, d, 6, api.OK)
	cuts(t, d, 5, api.ErrArg)
	cuts(t, d, 7, api.ErrArg)
	turns(t, d, 0, api.ErrArg)
	restarts(t, d, api.OK)
	is(t, d, "abcdef", 6, false)
	left(t, d, 2)
}

func TestSync(t *testing.T) {
	d := New()
	syncs(t, d, api.OK)
	is(t, d, "", 0, false)
	appends(t, d, "abc", api.OK)
	is(t, d, "abc", 0, false)
	for range 3 {
		syncs(t, d, api.OK)
		is(t, d, "abc", 3, false)
	}
	appends(t, d, "d", api.OK)
	cuts(t, d, 3, api.OK)
	syncs(t, d, api.OK)
	is(t, d, "abc", 3, false)
	fuses(t, d, 0, api.OK)
	syncs(t, d, api.OK)
	is(t, d, "abc", 3, false)
}

// What survived a failure of the power is not synced thereby, but can be.
func TestSyncBehindAFailure(t *testing.T) {
	d := with(t, "ab", "cdef")
	crashes(t, d, 3, api.OK)
	syncs(t, d, api.ErrDead)
	is(t, d, "abcde", 2, true)
	restarts(t, d, api.OK)
	is(t, d, "abcde", 2, false)
	syncs(t, d, api.OK)
	is(t, d, "abcde", 5, false)
	crashes(t, d, 0, api.OK)
	is(t, d, "abcde", 5, true)
}

func TestCut(t *testing.T) {
	whole := "abcdefg"
	for synced := range 8 {
		for n := -3; n < 11; n++ {
			d := with(t, whole[:synced], whole[synced:])
			if n < synced || n > 7 {
				cuts(t, d, n, api.ErrArg)
				is(t, d, whole, synced, false)
				continue
			}
			cuts(t, d, n, api.OK)
			is(t, d, whole[:n], synced, false)
		}
	}
}

func TestCutByGreatNumbers(t *testing.T) {
	for _, d := range []*Disk{New(), with(t, "ab", "cd"), with(t, "abcd", ""), with(t, "", "abcd")} {
		has, synced := string(d.Bytes()), d.Synced()
		for _, n := range []int{math.MinInt, math.MinInt + 1, math.MinInt32, -(1 << 32), -1, 5, 1 << 32, 1<<32 + 3, math.MaxInt32, math.MaxInt - 1, math.MaxInt} {
			cuts(t, d, n, api.ErrArg)
			is(t, d, has, synced, false)
		}
	}
}

// What was cut off is gone: it does not come back with what is appended, and no failure keeps it.
func TestCutIsForever(t *testing.T) {
	d := with(t, "ab", "cdef")
	cuts(t, d, 3, api.OK)
	cuts(t, d, 4, api.ErrArg)
	appends(t, d, "X", api.OK)
	is(t, d, "abcX", 2, false)
	cuts(t, d, 2, api.OK)
	crashes(t, d, -1, api.OK)
	is(t, d, "ab", 2, true)
	turns(t, d, 16, api.ErrArg)
	restarts(t, d, api.OK)
	appends(t, d, "Y", api.OK)
	is(t, d, "abY", 2, false)
}

// P5.2

func TestFuseBelowZeroIsNone(t *testing.T) {
	for _, n := range []int{-1, -2, -100, -(1 << 32), math.MinInt32, math.MinInt + 1, math.MinInt} {
		d := New()
		fuses(t, d, n, api.OK)
		is(t, d, "", 0, false)
		none(t, d)
		for _, before := range []int{0, 1, 7} {
			fuses(t, d, before, api.OK)
			fuses(t, d, n, api.OK)
			none(t, d)
		}
	}
}

func TestFuseOfZero(t *testing.T) {
	d := with(t, "ab", "c")
	fuses(t, d, 0, api.OK)
	is(t, d, "abc", 2, false)
	appends(t, d, "d", api.ErrTorn)
	is(t, d, "abc", 2, true)
	restarts(t, d, api.OK)
	none(t, d)
}

// The fuse that was set last is the one, whether it is greater or less.
func TestFuseAgain(t *testing.T) {
	for _, a := range []int{-1, 0, 1, 5, math.MaxInt} {
		for _, b := range []int{0, 1, 4, 9} {
			d := New()
			fuses(t, d, a, api.OK)
			fuses(t, d, b, api.OK)
			left(t, d, b)
		}
	}
	d := New()
	fuses(t, d, 4, api.OK)
	appends(t, d, "abc", api.OK)
	fuses(t, d, 4, api.OK)
	appends(t, d, "def", api.OK)
	appends(t, d, "ghi", api.ErrTorn)
	is(t, d, "abcdefg", 0, true)
}

func TestGreatFuses(t *testing.T) {
	for _, n := range []int{1 << 31, 1 << 32, 1<<32 + 1, math.MaxInt32, math.MaxInt - 1, math.MaxInt} {
		d := New()
		fuses(t, d, n, api.OK)
		none(t, d)
	}
}

func TestCrash(t *testing.T) {
	whole := "abcdefg"
	for synced := range 8 {
		for keep := -3; keep < 12; keep++ {
			d := with(t, whole[:synced], whole[synced:])
			crashes(t, d, keep, api.OK)
			want := whole
			if keep >= 0 && synced+keep < 7 {
				want = whole[:synced+keep]
			}
			is(t, d, want, synced, true)
			crashes(t, d, 0, api.ErrDead)
			is(t, d, want, synced, true)
			restarts(t, d, api.OK)
			is(t, d, want, synced, false)
		}
	}
}

func TestCrashByGreatNumbers(t *testing.T) {
	for _, keep := range []int{math.MinInt, math.MinInt + 1, math.MinInt32, -(1 << 32), 1 << 32, 1<<32 + 1, math.MaxInt32, math.MaxInt - 2, math.MaxInt - 1, math.MaxInt} {
		for synced := range 5 {
			d := with(t, "abcd"[:synced], "abcd"[synced:])
			crashes(t, d, keep, api.OK)
			is(t, d, "abcd", synced, true)
		}
		d := New()
		crashes(t, d, keep, api.OK)
		is(t, d, "", 0, true)
	}
}

// What was lost does not come back.
func TestCrashIsForever(t *testing.T) {
	d := with(t, "ab", "cdef")
	crashes(t, d, 1, api.OK)
	restarts(t, d, api.OK)
	crashes(t, d, 3, api.OK)
	is(t, d, "abc", 2, true)
	turns(t, d, 24, api.ErrArg)
	restarts(t, d, api.OK)
	crashes(t, d, 0, api.OK)
	restarts(t, d, api.OK)
	appends(t, d, "X", api.OK)
	crashes(t, d, -1, api.OK)
	is(t, d, "abX", 2, true)
}

func TestFuseIsGoneBehindACrash(t *testing.T) {
	for _, n := range []int{0, 1, 50, math.MaxInt} {
		d := with(t, "ab", "c")
		fuses(t, d, n, api.OK)
		crashes(t, d, 0, api.OK)
		restarts(t, d, api.OK)
		is(t, d, "ab", 2, false)
		none(t, d)
	}
}

func TestFuseIsGoneBehindATornAppend(t *testing.T) {
	for _, n := range []int{0, 1, 50} {
		d := New()
		fuses(t, d, n, api.OK)
		appends(t, d, string(make([]byte, n+1)), api.ErrTorn)
		restarts(t, d, api.OK)
		none(t, d)
		fuses(t, d, n, api.OK)
		left(t, d, n)
	}
}

// Without power each of these is ErrDead, whatever else is wrong, and nothing is changed, also not for later.
func TestWithoutPower(t *testing.T) {
	torn := with(t, "ab", "cd")
	fuses(t, torn, 1, api.OK)
	appends(t, torn, "ef", api.ErrTorn)
	crashed := with(t, "ab", "cdef")
	crashes(t, crashed, 3, api.OK)
	for _, d := range []*Disk{torn, crashed} {
		is(t, d, "abcde", 2, true)
		for _, n := range []int{math.MinInt, -1, 0, 1, 2, 3, 5, 6, math.MaxInt} {
			cuts(t, d, n, api.ErrDead)
			fuses(t, d, n, api.ErrDead)
			crashes(t, d, n, api.ErrDead)
		}
		for _, s := range []string{"", "x", "more"} {
			appends(t, d, s, api.ErrDead)
		}
		syncs(t, d, api.ErrDead)
		is(t, d, "abcde", 2, true)
		restarts(t, d, api.OK)
		is(t, d, "abcde", 2, false)
		none(t, d)
	}
}

func TestRestart(t *testing.T) {
	d := with(t, "ab", "cd")
	for range 3 {
		restarts(t, d, api.OK)
		is(t, d, "abcd", 2, false)
	}
	crashes(t, d, 1, api.OK)
	for range 3 {
		restarts(t, d, api.OK)
		is(t, d, "abc", 2, false)
	}
	appends(t, d, "e", api.OK)
	cuts(t, d, 3, api.OK)
	fuses(t, d, 2, api.OK)
	restarts(t, d, api.OK)
	left(t, d, 2)
}

func TestTurnEachBit(t *testing.T) {
	whole := []byte("a\x00\xff\x80c")
	for at := range 8 * len(whole) {
		d := with(t, string(whole[:2]), string(whole[2:]))
		crashes(t, d, -1, api.OK)
		want := slices.Clone(whole)
		for range at % 8 {
			want[at/8] = want[at/8]>>1 | want[at/8]<<7 // until the bit is the lowest
		}
		want[at/8] ^= 1
		for range at % 8 {
			want[at/8] = want[at/8]<<1 | want[at/8]>>7
		}
		turns(t, d, at, api.OK)
		is(t, d, string(want), 2, true)
		turns(t, d, at, api.OK)
		is(t, d, string(whole), 2, true)
	}
}

func TestTurnIsSeenBehindARestart(t *testing.T) {
	d := with(t, "ab", "cd")
	crashes(t, d, 1, api.OK)
	turns(t, d, 1, api.OK)
	turns(t, d, 15, api.OK)
	turns(t, d, 16, api.OK)
	turns(t, d, 23, api.OK)
	is(t, d, "c\xe2\xe2", 2, true)
	restarts(t, d, api.OK)
	is(t, d, "c\xe2\xe2", 2, false)
	appends(t, d, "d", api.OK)
	is(t, d, "c\xe2\xe2d", 2, false)
}

func TestTurnOfNoBit(t *testing.T) {
	d := with(t, "ab", "cd")
	crashes(t, d, 1, api.OK)
	for _, at := range []int{math.MinInt, math.MinInt + 1, math.MinInt32, -(1 << 32), -24, -9, -8, -7, -1, 24, 25, 31, 32, 100, 1 << 32, 1<<32 + 1, math.MaxInt32, math.MaxInt - 7, math.MaxInt} {
		turns(t, d, at, api.ErrArg)
		is(t, d, "abc", 2, true)
	}
	turns(t, d, 23, api.OK)

	d = New()
	crashes(t, d, 0, api.OK)
	for _, at := range []int{-1, 0, 1, 8} {
		turns(t, d, at, api.ErrArg)
		is(t, d, "", 0, true)
	}
}

func TestTurnWithPower(t *testing.T) {
	d := with(t, "ab", "cd")
	for range 2 {
		for _, at := range []int{math.MinInt, -1, 0, 15, 16, 31, 32, math.MaxInt} {
			turns(t, d, at, api.ErrArg)
			is(t, d, "abcd", 2, false)
		}
		crashes(t, d, -1, api.OK)
		restarts(t, d, api.OK)
	}
}

// P5.3

func TestNil(t *testing.T) {
	var d *Disk
	for _, n := range []int{math.MinInt, -1, 0, 1, math.MaxInt} {
		cuts(t, d, n, api.ErrNil)
		fuses(t, d, n, api.ErrNil)
		crashes(t, d, n, api.ErrNil)
		turns(t, d, n, api.ErrNil)
	}
	appends(t, d, "", api.ErrNil)
	appends(t, d, "ab", api.ErrNil)
	errno(t, "Append of nil", d.Append(nil), api.ErrNil)
	syncs(t, d, api.ErrNil)
	restarts(t, d, api.ErrNil)
	is(t, d, "", 0, false)
}

// One that no call created is as a new one.
func TestZeroDisk(t *testing.T) {
	var d Disk
	is(t, &d, "", 0, false)
	turns(t, &d, 0, api.ErrArg)
	cuts(t, &d, 0, api.OK)
	none(t, &d)
}

// scribble writes to bytes, and to their spare capacity.
func scribble(b []byte) {
	b = b[:cap(b)]
	for i := range b {
		b[i] = 0x55
	}
}

func TestBytesAreNewMemory(t *testing.T) {
	d := with(t, "ab", "cd")
	cuts(t, d, 3, api.OK)
	first, second := d.Bytes(), d.Bytes()
	_ = append(first, "spoilt it"...)
	scribble(first)
	is(t, d, "abc", 2, false)
	appends(t, d, "e", api.OK)
	is(t, d, "abce", 2, false)
	scribble(first)
	is(t, d, "abce", 2, false)
	crashes(t, d, 0, api.OK)
	turns(t, d, 0, api.OK)
	restarts(t, d, api.OK)
	appends(t, d, "xyz", api.OK)
	if string(second) != "abc" {
		t.Errorf("the result shows what was done later: %q", second)
	}
	is(t, d, "`bxyz", 2, false)
}

func TestAppendLeavesItsArgument(t *testing.T) {
	for fuse := -1; fuse < 8; fuse++ {
		for n := range 7 {
			d := New()
			fuses(t, d, fuse, api.OK)
			whole := []byte("0123456789")
			d.Append(whole[:n])
			want := string(d.Bytes())
			crashes(t, d, -1, map[bool]api.Errno{false: api.OK, true: api.ErrDead}[fuse >= 0 && fuse < n])
			if want != "" {
				turns(t, d, 0, api.OK)
				turns(t, d, 0, api.OK)
			}
			restarts(t, d, api.OK)
			appends(t, d, "behind", api.OK)
			if string(whole) != "0123456789" {
				t.Errorf("fuse %d, %d bytes: the argument was changed: %q", fuse, n, whole)
			}
			scribble(whole[:n])
			is(t, d, want+"behind", 0, false)
		}
	}
}

// What a disk has may be appended to it, or to another one, which has nothing in common with it.
func TestDisksAreApart(t *testing.T) {
	c, d := with(t, "ab", "c"), New()
	errno(t, "Append", c.Append(c.Bytes()), api.OK)
	errno(t, "Append", d.Append(c.Bytes()), api.OK)
	is(t, c, "abcabc", 2, false)
	is(t, d, "abcabc", 0, false)
	fuses(t, c, 1, api.OK)
	none(t, with(t, "x", "y"))
	crashes(t, c, 1, api.OK)
	turns(t, c, 0, api.OK)
	is(t, c, "`bc", 2, true)
	is(t, d, "abcabc", 0, false)
	syncs(t, d, api.OK)
	turns(t, d, 0, api.ErrArg)
	is(t, c, "`bc", 2, true)
}

func TestManyBytes(t *testing.T) {
	b := make([]byte, 3*api.MaxFrame)
	rand.New(rand.NewSource(1)).Read(b)
	d := New()
	fuses(t, d, 8*len(b)+5, api.OK)
	for i := range 8 {
		errno(t, "Append", d.Append(b), api.OK)
		if i == 3 {
			syncs(t, d, api.OK)
		}
	}
	errno(t, "Append", d.Append(b), api.ErrTorn)
	want := append(bytes.Repeat(b, 8), b[:5]...)
	is(t, d, string(want), 4*len(b), true)
	turns(t, d, 8*len(want)-1, api.OK)
	turns(t, d, 8*len(want), api.ErrArg)
	restarts(t, d, api.OK)
	want[len(want)-1] ^= 0x80
	cuts(t, d, 4*len(b)-1, api.ErrArg)
	cuts(t, d, 7*len(b)+1, api.OK)
	is(t, d, string(want[:7*len(b)+1]), 4*len(b), false)
	crashes(t, d, 1, api.OK)
	is(t, d, string(want[:4*len(b)+1]), 4*len(b), true)
}

// P5.4, P1: whatever is called, in any order, a disk is as the chapter tells it.

// told is a disk as the chapter tells it, byte by byte: what is synced apart from what is not; below 0 there is no fuse.
type told struct {
	synced, loose []byte
	fuse          int
	dead          bool
}

func (m *told) write(b []byte) api.Errno {
	for _, c := range b {
		if m.fuse == 0 {
			m.dead, m.fuse = true, -1
			return api.ErrTorn
		}
		if m.fuse > 0 {
			m.fuse--
		}
		m.loose = append(m.loose, c)
	}
	return api.OK
}

func (m *told) cut(n int) api.Errno {
	if n -= len(m.synced); n < 0 || n > len(m.loose) {
		return api.ErrArg
	}
	m.loose = m.loose[:n]
	return api.OK
}

func (m *told) crash(keep int) api.Errno {
	for keep >= 0 && len(m.loose) > keep {
		m.loose = m.loose[:len(m.loose)-1]
	}
	m.dead, m.fuse = true, -1
	return api.OK
}

func (m *told) turn(at int) api.Errno {
	for _, b := range [][]byte{m.synced, m.loose} {
		for i := range b {
			if at >= 0 && at < 8 {
				b[i] ^= []byte{1, 2, 4, 8, 16, 32, 64, 128}[at]
				return api.OK
			}
			at -= 8
		}
	}
	return api.ErrArg
}

// step does the same with both.
func step(t *testing.T, d *Disk, m *told, do byte, n int) {
	t.Helper()
	was, want := *m, api.ErrDead
	wasAll := slices.Concat(m.synced, m.loose)
	powered := func(e func() api.Errno) api.Errno {
		if m.dead {
			return api.ErrDead
		}
		return e()
	}
	switch do % 7 {
	case 0:
		b := bytes.Repeat([]byte{do}, n&7)
		want = powered(func() api.Errno { return m.write(b) })
		errno(t, "Append", d.Append(b), want)
	case 1:
		want = powered(func() api.Errno {
			m.synced, m.loose = slices.Concat(m.synced, m.loose), nil
			return api.OK
		})
		syncs(t, d, want)
	case 2:
		want = powered(func() api.Errno { return m.cut(n) })
		cuts(t, d, n, want)
	case 3:
		want = powered(func() api.Errno {
			m.fuse = max(n, -1)
			return api.OK
		})
		fuses(t, d, n, want)
	case 4:
		want = powered(func() api.Errno { return m.crash(n) })
		crashes(t, d, n, want)
	case 5:
		if want = api.ErrArg; m.dead {
			want = m.turn(n)
		}
		turns(t, d, n, want)
	case 6:
		want, m.dead = api.OK, false
		restarts(t, d, want)
	}
	is(t, d, string(m.synced)+string(m.loose), len(m.synced), m.dead)
	if do%7 != 5 {
		stays(t, d, was, wasAll, do%7 == 0)
	}
}

// stays tells whether what was synced is still there, and a prefix of what followed it: all of that, where some was appended.
func stays(t *testing.T, d *Disk, was told, all []byte, appended bool) {
	t.Helper()
	now := d.Bytes()
	if d.Synced() < len(was.synced) || !bytes.HasPrefix(now, was.synced) {
		t.Errorf("%q was synced: %q", was.synced, now)
	}
	if appended && !bytes.HasPrefix(now, all) || !appended && !bytes.HasPrefix(all, now) {
		t.Errorf("%q was there: %q", all, now)
	}
}

func TestAnySteps(t *testing.T) {
	source := rand.New(rand.NewSource(2))
	for range 500 {
		d, m := New(), &told{fuse: -1}
		for range 200 {
			do, n := byte(source.Intn(256)), source.Intn(12)-2
			if m.dead && source.Intn(3) == 0 {
				do = 6
			}
			switch do % 7 {
			case 2:
				n += len(m.synced)
			case 5:
				n = source.Intn(8*len(d.Bytes())+20) - 10
			}
			step(t, d, m, do, n)
		}
		if t.Failed() {
			t.Fatal()
		}
	}
}

// FuzzSteps does any steps, two bytes each.
func FuzzSteps(f *testing.F) {
	f.Add([]byte{})
	f.Add([]byte{0, 2, 1, 0, 0, 2, 4, 1})
	f.Add([]byte{3, 3, 0, 2, 0, 2, 6, 0, 5, 0})
	f.Fuzz(func(t *testing.T, steps []byte) {
		d, m := New(), &told{fuse: -1}
		for ; len(steps) >= 2; steps = steps[2:] {
			step(t, d, m, steps[0], int(int8(steps[1])))
		}
	})
}
