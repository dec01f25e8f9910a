package record

import (
	"bytes"
	"encoding/binary"
	"hash/crc32"
	"math"
	"math/rand"
	"slices"
	"strings"
	"testing"

	"quorate/api"
	"quorate/disk"
)

// framed is the frame of contents, by means of its own.
func framed(inside string) string {
	b := binary.AppendUvarint(nil, uint64(len(inside)))
	b = binary.LittleEndian.AppendUint32(b, crc32.Checksum([]byte(inside), crc32.MakeTable(crc32.Castagnoli)))
	return string(b) + inside
}

// frames are the frames of all of these.
func frames(insides ...string) string {
	var all strings.Builder
	for _, s := range insides {
		all.WriteString(framed(s))
	}
	return all.String()
}

func errno(t *testing.T, name string, got, want api.Errno) {
	t.Helper()
	if got != want {
		t.Errorf("%s: %v, want %v", name, got, want)
	}
}

// is tells whether a disk has these bytes, so many of them synced, and power or not.
func is(t *testing.T, d *disk.Disk, want string, synced int, dead bool) {
	t.Helper()
	if got := d.Bytes(); string(got) != want || d.Synced() != synced || d.Dead() != dead {
		t.Errorf("%q, %d synced, dead %v, want %q, %d, %v", got, d.Synced(), d.Dead(), want, synced, dead)
	}
}

// with is a disk of bytes that are synced and bytes that are not.
func with(t *testing.T, synced, loose string) *disk.Disk {
	t.Helper()
	d := disk.New()
	errno(t, "the disk's Append", d.Append([]byte(synced)), api.OK)
	errno(t, "the disk's Sync", d.Sync(), api.OK)
	errno(t, "the disk's Append", d.Append([]byte(loose)), api.OK)
	is(t, d, synced+loose, len(synced), false)
	return d
}

// same tells whether the contents are these.
func same(t *testing.T, name string, got [][]byte, want []string) {
	t.Helper()
	equal := len(got) == len(want)
	for i := 0; equal && i < len(got); i++ {
		equal = string(got[i]) == want[i]
	}
	if !equal {
		t.Errorf("%s: %d records %.200q, want %d %.200q", name, len(got), got, len(want), want)
	}
}

// opens opens a disk's log, which has these records; the disk has nothing else then, all of it synced. It does so twice, with the same answer.
func opens(t *testing.T, d *disk.Disk, want ...string) *Log {
	t.Helper()
	_, m, e := Open(d)
	errno(t, "Open", e, api.OK)
	same(t, "Open", m, want)
	all := frames(want...)
	is(t, d, all, len(all), false)

	l, m, e := Open(d)
	errno(t, "Open again", e, api.OK)
	same(t, "Open again", m, want)
	is(t, d, all, len(all), false)
	if l == nil {
		t.Fatal("no log")
	}
	return l
}

// refused tells whether Open returns an error, nothing else, and leaves the disk as it was.
func refused(t *testing.T, d *disk.Disk, want api.Errno) {
	t.Helper()
	has, synced, dead := string(d.Bytes()), d.Synced(), d.Dead()
	for range 2 {
		l, m, e := Open(d)
		if l != nil || len(m) != 0 || e != want {
			t.Errorf("Open: %v, %q, %v, want %v", l, m, e, want)
		}
		is(t, d, has, synced, dead)
	}
}

func appends(t *testing.T, l *Log, s string, want api.Errno) {
	t.Helper()
	if e := l.Append([]byte(s)); e != want {
		t.Errorf("Append of %d bytes %.20q: %v, want %v", len(s), s, e, want)
	}
}

func syncs(t *testing.T, l *Log, want api.Errno) {
	t.Helper()
	errno(t, "Sync", l.Sync(), want)
}

// fails ends a disk's power, and gives it again.
func fails(t *testing.T, d *disk.Disk, keep int) {
	t.Helper()
	errno(t, "Crash", d.Crash(keep), api.OK)
	errno(t, "Restart", d.Restart(), api.OK)
}

// turned turns a bit of a disk that has power.
func turned(t *testing.T, d *disk.Disk, at int) {
	t.Helper()
	errno(t, "Crash", d.Crash(-1), api.OK)
	errno(t, "Turn", d.Turn(at), api.OK)
	errno(t, "Restart", d.Restart(), api.OK)
}

// lists are records: none, some, some of them equal, some whose length has two bytes or three.
func lists() [][]string {
	return [][]string{
		nil,
		{"a"},
		{"a", "a", "a"},
		{"a", "bc", "def"},
		{"\x00", "\x00\x00\x00\x00\x00", "\xff\xff"},
		{strings.Repeat("x", 127), strings.Repeat("y", 128), "z"},
		{framed("a"), frames("b", "c"), framed(framed("d"))},
		{strings.Repeat("q", 20000)},
	}
}

// wrongs are bytes with which no frame begins, each of another kind.
func wrongs() []string {
	long := strings.Repeat("x", api.MaxFrame+1)
	return []string{
		"\x00",
		"\x00\x00\x00\x00\x00",
		"\x81\x00" + framed("a")[1:], // a length that is not in the shortest form
		"\x80\x00",
		framed(long), // a length that no frame has
		"\xff\xff\xff\xff\xff\xff\xff\xff\xff\x01" + framed("a")[1:],
		strings.Repeat("\xff", 12),        // no number
		framed("a")[:5] + "b",             // another sum
		"\x01\xc1\xd0\x43\x30a",           // the sum's highest byte first
		framed("ab")[:1] + framed("a"),    // a length of its own ahead
		"\x03" + framed("abcd")[1:],       // a length that is too small
		framed("abcd")[:8] + "\x00",       // the last byte lost
		"\x01" + "\x00\x00\x00\x00" + "a", // no sum
	}
}

// P6.1

func TestExamples(t *testing.T) {
	a, b := framed("a"), framed("b")
	if a != "\x01\x30\x43\xd0\xc1a" {
		t.Fatalf("frame of a: %q", a)
	}
	opens(t, with(t, a, b[:4]), "a")

	for bit := range 8 {
		d := with(t, a, "")
		turned(t, d, 5*8+bit)
		refused(t, d, api.ErrHalt)
	}
}

func TestOpenOfAnEmptyDisk(t *testing.T) {
	d := disk.New()
	l := opens(t, d)
	appends(t, l, "a", api.OK)
	opens(t, d, "a")
}

func TestOpenOfFrames(t *testing.T) {
	for _, synced := range lists() {
		opens(t, with(t, frames(synced...), ""), synced...)
		for _, loose := range lists() {
			opens(t, with(t, frames(synced...), frames(loose...)), slices.Concat(synced, loose)...)
		}
	}
}

// A torn frame is cut off, wherever it ends, and nothing of what is ahead of it.
func TestOpenOfATornFrame(t *testing.T) {
	for _, torn := range []string{"a", "abc", strings.Repeat("t", 130)} {
		f := framed(torn)
		for n := range f {
			for _, synced := range lists() {
				opens(t, with(t, frames(synced...), f[:n]), synced...)
				whole := slices.Concat(synced, []string{"b", "cd"})
				opens(t, with(t, frames(synced...), frames("b", "cd")+f[:n]), whole...)
			}
		}
	}
}

// A wrong frame is cut off, and whatever follows it.
func TestOpenOfAWrongFrame(t *testing.T) {
	for _, wrong := range wrongs() {
		for _, behind := range []string{"", "x", framed("e"), frames("e", "fg"), framed("e")[:3]} {
			for _, synced := range [][]string{nil, {"a"}, {"a", "bc"}} {
				d := with(t, frames(synced...), wrong+behind)
				opens(t, d, synced...)
				whole := slices.Concat(synced, []string{"b", "cd"})
				d = with(t, frames(synced...), frames("b", "cd")+wrong+behind)
				opens(t, d, whole...)
			}
		}
	}
}

// What was cut off is gone, and what was not synced is synced: no failure of the power changes what Open returned.
func TestOpenSyncs(t *testing.T) {
	for keep := -1; keep < 10; keep++ {
		d := with(t, framed("a"), frames("b", "c")+framed("d")[:5]+framed("e"))
		opens(t, d, "a", "b", "c")
		fails(t, d, keep)
		opens(t, d, "a", "b", "c")

		d = with(t, framed("a"), frames("b", "c")+framed("d")[:5]+framed("e"))
		l, _, _ := Open(d)
		appends(t, l, "fg", api.OK)
		fails(t, d, keep)
		want := []string{"a", "b", "c"}
		if keep < 0 || keep >= 7 {
			want = append(want, "fg")
		}
		opens(t, d, want...)
	}
}

// Synced bytes that end within a frame: the log is corrupt, also where what follows them is the frame's rest.
func TestOpenOfAFrameThatIsNotAllSynced(t *testing.T) {
	for _, last := range []string{"a", "abc", strings.Repeat("t", 130)} {
		f := framed(last)
		for n := 1; n < len(f); n++ {
			for _, ahead := range []string{"", framed("a"), frames("a", "bc")} {
				for _, behind := range []string{"", f[n:], f[n:] + framed("d"), framed("d"), frames("d", "ef"), "x"} {
					refused(t, with(t, ahead+f[:n], behind), api.ErrHalt)
				}
			}
		}
	}
}

func TestOpenOfAWrongFrameThatIsSynced(t *testing.T) {
	for _, wrong := range wrongs() {
		for _, ahead := range []string{"", framed("a"), frames("a", "bc")} {
			for _, behind := range []string{"", framed("d"), frames("d", "ef"), framed("d")[:3], wrong} {
				refused(t, with(t, ahead+wrong, behind), api.ErrHalt)
				refused(t, with(t, ahead+wrong+behind, ""), api.ErrHalt)
				refused(t, with(t, ahead+wrong+behind, framed("g")), api.ErrHalt)
			}
		}
	}
}

// A disk whose log is corrupt keeps what it has, and what it was told to do.
func TestErrHaltLeavesTheFuse(t *testing.T) {
	d := with(t, "\x00", framed("a"))
	d.Fuse(2)
	refused(t, d, api.ErrHalt)
	errno(t, "the disk's Append", d.Append([]byte("xyz")), api.ErrTorn)
	is(t, d, "\x00"+framed("a")+"xy", 1, true)
}

// To open a log writes nothing: a fuse is as it was.
func TestOpenLeavesTheFuse(t *testing.T) {
	for fuse := range 9 {
		d := with(t, framed("a"), framed("b")+framed("c")[:3])
		d.Fuse(fuse)
		l := opens(t, d, "a", "b")
		if fuse < 7 {
			appends(t, l, "de", api.ErrTorn)
			is(t, d, frames("a", "b")+framed("de")[:fuse], 12, true)
			continue
		}
		appends(t, l, "de", api.OK)
		is(t, d, frames("a", "b", "de"), 12, false)
	}
}

// The errors of Open, in their order.
func TestOpenRefuses(t *testing.T) {
	for range 2 {
		if l, m, e := Open(nil); l != nil || len(m) != 0 || e != api.ErrNil {
			t.Errorf("Open of nil: %v, %q, %v", l, m, e)
		}
	}
	corrupt := with(t, "\x00", framed("a"))
	for _, d := range []*disk.Disk{disk.New(), with(t, framed("a"), framed("b")), with(t, framed("a"), framed("b")[:2]), corrupt} {
		d.Crash(-1)
		refused(t, d, api.ErrDead)
	}
	errno(t, "Restart", corrupt.Restart(), api.OK)
	refused(t, corrupt, api.ErrHalt)

	var zero disk.Disk
	opens(t, &zero)
}

// P6.2

func TestAppend(t *testing.T) {
	for _, list := range lists() {
		d := disk.New()
		l := opens(t, d)
		for i, s := range list {
			appends(t, l, s, api.OK)
			is(t, d, frames(list[:i+1]...), 0, false)
		}
		opens(t, d, list...)
	}
}

func TestSync(t *testing.T) {
	d := disk.New()
	l := opens(t, d)
	syncs(t, l, api.OK)
	is(t, d, "", 0, false)
	appends(t, l, "a", api.OK)
	is(t, d, framed("a"), 0, false)
	for range 2 {
		syncs(t, l, api.OK)
		is(t, d, framed("a"), 6, false)
	}
	appends(t, l, "bc", api.OK)
	is(t, d, frames("a", "bc"), 6, false)
	fails(t, d, 0)
	opens(t, d, "a")
}

// No bytes, as many as a frame may hold, and one more.
func TestAppendOfEachLength(t *testing.T) {
	d := disk.New()
	l := opens(t, d)
	for _, n := range []int{0, api.MaxFrame + 1, api.MaxFrame + 2, 2 * api.MaxFrame, 1 << 20} {
		appends(t, l, strings.Repeat("x", n), api.ErrLong)
		is(t, d, "", 0, false)
	}
	errno(t, "Append of nil", l.Append(nil), api.ErrLong)
	errno(t, "Append of no bytes", l.Append([]byte{}), api.ErrLong)
	is(t, d, "", 0, false)

	var want []string
	for _, n := range []int{1, 2, 127, 128, 129, 16383, 16384, api.MaxFrame - 1, api.MaxFrame} {
		want = append(want, strings.Repeat(string(rune('a'+n%26)), n))
		appends(t, l, want[len(want)-1], api.OK)
		is(t, d, frames(want...), 0, false)
	}
	appends(t, l, "", api.ErrLong)
	is(t, d, frames(want...), 0, false)
	opens(t, d, want...)
}

// With a fuse of any length up to the frame's, and some more.
func TestAppendWithAFuse(t *testing.T) {
	for _, s := range []string{"a", "bcd", strings.Repeat("t", 130)} {
		f := framed(s)
		for fuse := 0; fuse < len(f)+3; fuse++ {
			d := disk.New()
			l := opens(t, d)
			appends(t, l, "x", api.OK)
			syncs(t, l, api.OK)
			appends(t, l, "yz", api.OK)
			errno(t, "Fuse", d.Fuse(fuse), api.OK)
			if fuse >= len(f) {
				appends(t, l, s, api.OK)
				is(t, d, frames("x", "yz", s), 6, false)
				appends(t, l, "more", api.ErrTorn)
				is(t, d, frames("x", "yz", s)+framed("more")[:fuse-len(f)], 6, true)
				errno(t, "Restart", d.Restart(), api.OK)
				opens(t, d, "x", "yz", s)
				continue
			}
			appends(t, l, s, api.ErrTorn)
			is(t, d, frames("x", "yz")+f[:fuse], 6, true)
			appends(t, l, s, api.ErrDead)
			refused(t, d, api.ErrDead)
			errno(t, "Restart", d.Restart(), api.OK)
			l = opens(t, d, "x", "yz")
			appends(t, l, s, api.OK)
			opens(t, d, "x", "yz", s)
		}
	}
}

// What a fuse lets through of a record that is refused: all of it, for nothing is written.
func TestErrLongLeavesTheFuse(t *testing.T) {
	d := disk.New()
	l := opens(t, d)
	d.Fuse(2)
	appends(t, l, "", api.ErrLong)
	appends(t, l, strings.Repeat("x", api.MaxFrame+1), api.ErrLong)
	is(t, d, "", 0, false)
	appends(t, l, "a", api.ErrTorn)
	is(t, d, framed("a")[:2], 0, true)
}

// Without power each call is ErrDead, also where the contents are too long, and nothing is changed.
func TestWithoutPower(t *testing.T) {
	d := disk.New()
	l := opens(t, d)
	appends(t, l, "a", api.OK)
	syncs(t, l, api.OK)
	appends(t, l, "b", api.OK)
	d.Crash(-1)
	for _, s := range []string{"", "a", strings.Repeat("x", api.MaxFrame), strings.Repeat("x", api.MaxFrame+1)} {
		appends(t, l, s, api.ErrDead)
		is(t, d, frames("a", "b"), 6, true)
	}
	errno(t, "Append of nil", l.Append(nil), api.ErrDead)
	syncs(t, l, api.ErrDead)
	is(t, d, frames("a", "b"), 6, true)
	d.Restart()
	opens(t, d, "a", "b")
}

func TestNil(t *testing.T) {
	var none *Log
	for _, l := range []*Log{none, {}} {
		for range 2 {
			for _, s := range []string{"", "a", strings.Repeat("x", api.MaxFrame+1)} {
				appends(t, l, s, api.ErrNil)
			}
			errno(t, "Append of nil", l.Append(nil), api.ErrNil)
			syncs(t, l, api.ErrNil)
		}
	}
}

// A log's disk is the one that was given: what is done to it by way of the log is done to it.
func TestDiskIsPromoted(t *testing.T) {
	d := with(t, framed("a"), framed("b"))
	l := opens(t, d, "a", "b")
	if l.Disk != d {
		t.Error("another disk")
	}
	appends(t, l, "c", api.OK)
	if string(l.Bytes()) != frames("a", "b", "c") || l.Synced() != 12 || l.Dead() {
		t.Errorf("%q, %d, %v", l.Bytes(), l.Synced(), l.Dead())
	}
	errno(t, "Crash", l.Crash(0), api.OK)
	is(t, d, frames("a", "b"), 12, true)
}

// P6.3

// kept are as many of the records as have all of their frames within the first bytes.
func kept(list []string, size int) []string {
	for i := range list {
		if size -= len(framed(list[i])); size < 0 {
			return list[:i]
		}
	}
	return list
}

// The power fails behind each byte of what is not synced.
func TestPowerFailsAtEachByte(t *testing.T) {
	list := []string{"a", "bc", "\x00", framed("d"), strings.Repeat("e", 129), "f"}
	for synced := range len(list) + 1 {
		base, size := len(frames(list[:synced]...)), len(frames(list...))
		for keep := 0; keep <= size-base; keep++ {
			d := disk.New()
			l := opens(t, d)
			for i, s := range list {
				if i == synced {
					syncs(t, l, api.OK)
				}
				appends(t, l, s, api.OK)
			}
			if synced == len(list) {
				syncs(t, l, api.OK)
			}
			fails(t, d, keep)
			want := kept(list, base+keep)
			if len(want) < synced {
				t.Fatal("a record that was synced is not asked for")
			}
			l = opens(t, d, want...)
			appends(t, l, "behind", api.OK)
			opens(t, d, append(slices.Clone(want), "behind")...)
		}
	}
}

// Each bit of an inside or of a sum, of what was synced: ErrHalt from then on, whatever happens but another Turn.
func TestEachBitOfWhatIsSynced(t *testing.T) {
	list := []string{"a", "bcd", strings.Repeat("e", 130), "f"}
	for loose := range 3 {
		at := 0
		for _, s := range list {
			size := len(framed(s))
			for bit := 8 * (size - len(s) - 4); bit < 8*size; bit++ {
				d := with(t, frames(list...), frames([]string{"x", "yz"}[:loose]...))
				turned(t, d, 8*at+bit)
				refused(t, d, api.ErrHalt)
				fails(t, d, bit%9)
				refused(t, d, api.ErrHalt)
				d.Restart()
				refused(t, d, api.ErrHalt)
			}
			at += size
		}
	}
}

// A length of these lists is never mistaken for another one, whichever of its bits is turned.
func TestEachBitOfALength(t *testing.T) {
	list := []string{"a", "bcd", strings.Repeat("e", 130), "f"}
	at := 0
	for _, s := range list {
		size := len(framed(s))
		for bit := range 8 * (size - len(s) - 4) {
			d := with(t, frames(list...), framed("x"))
			turned(t, d, 8*at+bit)
			refused(t, d, api.ErrHalt)
		}
		at += size
	}
}

// Each bit of what is not synced: that record, and all behind it, are cut off.
func TestEachBitOfWhatIsNotSynced(t *testing.T) {
	list := []string{"bcd", "e", "fg"}
	at := len(framed("a"))
	for i, s := range list {
		size := len(framed(s))
		for bit := range 8 * size {
			d := with(t, framed("a"), frames(list...))
			turned(t, d, 8*at+bit)
			opens(t, d, append([]string{"a"}, list[:i]...)...)
		}
		at += size
	}
}

// A log that is corrupt stays so, and its disk as it is; once the bit is as it was, so is the log.
func TestErrHaltHangsOnTheDiskAlone(t *testing.T) {
	d := with(t, frames("a", "b"), framed("c"))
	l := opens(t, d, "a", "b", "c")
	turned(t, d, 8*5)
	refused(t, d, api.ErrHalt)
	appends(t, l, "d", api.OK)
	syncs(t, l, api.OK)
	refused(t, d, api.ErrHalt)
	turned(t, d, 8*5)
	opens(t, d, "a", "b", "c", "d")
}

// R2, R3

// scribble writes to bytes, and to their spare capacity.
func scribble(b []byte) {
	b = b[:cap(b)]
	for i := range b {
		b[i] = 0x55
	}
}

func TestResultsAreNewMemory(t *testing.T) {
	d := with(t, frames("a", "bc"), frames("def", "g"))
	want := []string{"a", "bc", "def", "g"}
	l, m, _ := Open(d)
	_, again, _ := Open(d)
	for _, inside := range m {
		_ = append(inside, "spoilt it"...)
		scribble(inside)
	}
	for i := range m {
		m[i] = nil
	}
	_ = append(m, []byte("spoilt it"))
	same(t, "Open again", again, want)
	is(t, d, frames(want...), len(frames(want...)), false)
	appends(t, l, "h", api.OK)
	opens(t, d, append(want, "h")...)
	same(t, "Open again", again, want)

	for i := range again {
		scribble(again[i])
		for k, inside := range again[i+1:] {
			if string(inside) != want[i+1+k] {
				t.Errorf("the record %d is in the memory of the record %d: %q", i+1+k, i, inside)
			}
		}
	}
}

func TestAppendLeavesItsArgument(t *testing.T) {
	for fuse := -1; fuse < 12; fuse++ {
		for n := range 6 {
			d := disk.New()
			l := opens(t, d)
			d.Fuse(fuse)
			whole := []byte("0123456789")
			e := l.Append(whole[:n])
			if string(whole) != "0123456789" {
				t.Errorf("the argument was changed: %q", whole)
			}
			scribble(whole[:n])
			d.Crash(-1)
			d.Restart()
			if e == api.OK {
				opens(t, d, "0123456789"[:n])
			} else {
				opens(t, d)
			}
		}
	}
}

// One list for all records: each has what it held when it was given.
func TestAppendOfTheSameMemory(t *testing.T) {
	d := disk.New()
	l := opens(t, d)
	b := make([]byte, 3, 64)
	var want []string
	for i := range 20 {
		b[i%3]++
		errno(t, "Append", l.Append(b), api.OK)
		want = append(want, string(b))
	}
	scribble(b)
	opens(t, d, want...)
}

func TestLogsAreApart(t *testing.T) {
	c, d := disk.New(), disk.New()
	k, l := opens(t, c), opens(t, d)
	appends(t, k, "a", api.OK)
	appends(t, l, "b", api.OK)
	syncs(t, k, api.OK)
	is(t, c, framed("a"), 6, false)
	is(t, d, framed("b"), 0, false)
	errno(t, "Crash", c.Crash(0), api.OK)
	appends(t, k, "a", api.ErrDead)
	appends(t, l, "a", api.OK)
	turned(t, d, 8*5)
	opens(t, d)
	errno(t, "Restart", c.Restart(), api.OK)
	opens(t, c, "a")
}

// P1: whatever is called, in any order, a log is as the chapter tells it.

// told is a disk as the chapter tells it; below 0 there is no fuse.
type told struct {
	synced, loose string
	fuse          int
	dead          bool
}

// insides are the contents of the frames with which bytes begin, where these end, and whether nothing else is there.
func insides(b string) ([]string, int, bool) {
	var out []string
	end := 0
	for end < len(b) {
		n, size := binary.Uvarint([]byte(b[end:]))
		at := end + size + 4
		if size <= 0 || n == 0 || n > api.MaxFrame || at+int(n) > len(b) || framed(b[at:at+int(n)]) != b[end:at+int(n)] {
			return out, end, false
		}
		out = append(out, b[at:at+int(n)])
		end = at + int(n)
	}
	return out, end, true
}

func (m *told) open() ([]string, api.Errno) {
	if m.dead {
		return nil, api.ErrDead
	}
	records, _, whole := insides(m.synced)
	if !whole {
		return nil, api.ErrHalt
	}
	more, end, _ := insides(m.loose)
	m.synced, m.loose = m.synced+m.loose[:end], ""
	return append(records, more...), api.OK
}

func (m *told) append(s string) api.Errno {
	if m.dead {
		return api.ErrDead
	}
	if s == "" || len(s) > api.MaxFrame {
		return api.ErrLong
	}
	f := framed(s)
	if m.fuse >= 0 && m.fuse < len(f) {
		m.loose += f[:m.fuse]
		m.dead, m.fuse = true, -1
		return api.ErrTorn
	}
	m.loose += f
	if m.fuse >= 0 {
		m.fuse -= len(f)
	}
	return api.OK
}

func (m *told) sync() api.Errno {
	if m.dead {
		return api.ErrDead
	}
	m.synced, m.loose = m.synced+m.loose, ""
	return api.OK
}

func (m *told) crash(keep int) {
	if m.dead {
		return
	}
	if keep >= 0 && keep < len(m.loose) {
		m.loose = m.loose[:keep]
	}
	m.dead, m.fuse = true, -1
}

func (m *told) turn(at int) {
	all := []byte(m.synced + m.loose)
	if m.dead && at >= 0 && at/8 < len(all) {
		all[at/8] ^= 1 << (at % 8)
	}
	m.synced, m.loose = string(all[:len(m.synced)]), string(all[len(m.synced):])
}

// step does the same with both, and returns the log that was opened last.
func step(t *testing.T, d *disk.Disk, l *Log, m *told, do byte, n int) *Log {
	t.Helper()
	switch do % 8 {
	case 0, 1:
		s := strings.Repeat(string(rune('a'+do%26)), max(n, 0)%200)
		errno(t, "Append", l.Append([]byte(s)), m.append(s))
	case 2:
		errno(t, "Sync", l.Sync(), m.sync())
	case 3:
		if d.Fuse(n) == api.OK {
			m.fuse = max(n, -1)
		}
	case 4:
		m.crash(n)
		d.Crash(n)
	case 5:
		m.turn(n)
		d.Turn(n)
	case 6:
		d.Restart()
		m.dead = false
	case 7:
		want, e := m.open()
		k, records, got := Open(d)
		errno(t, "Open", got, e)
		same(t, "Open", records, want)
		if (k == nil) != (e != api.OK) {
			t.Errorf("a log %v, %v", k, e)
		}
		if k != nil {
			l = k
		}
	}
	is(t, d, m.synced+m.loose, len(m.synced), m.dead)
	return l
}

func TestAnySteps(t *testing.T) {
	source := rand.New(rand.NewSource(3))
	for range 1000 {
		d, m := disk.New(), &told{fuse: -1}
		l := opens(t, d)
		for range 60 {
			do, n := byte(source.Intn(256)), source.Intn(20)-2
			if do%8 == 5 && source.Intn(4) > 0 {
				do = 0 // a log that is corrupt stays so: not too often
			}
			switch {
			case m.dead && source.Intn(3) == 0:
				do = 6
			case do%8 == 5:
				n = source.Intn(8*len(d.Bytes())+20) - 10
			case do%16 == 0:
				n *= 11
			}
			l = step(t, d, l, m, do, n)
		}
		if t.Failed() {
			t.Fatal()
		}
	}
}

// Any bytes, so many of them synced: Open ends, and answers as the chapter tells.
func anyBytes(t *testing.T, b []byte, synced int) {
	t.Helper()
	all := string(b)
	d := with(t, all[:synced], all[synced:])
	want, end, whole := insides(all[:synced])
	if !whole {
		refused(t, d, api.ErrHalt)
		return
	}
	more, _, _ := insides(all[end:])
	opens(t, d, append(want, more...)...)
}

func TestAnyBytes(t *testing.T) {
	source := rand.New(rand.NewSource(4))
	for range 3000 {
		var all bytes.Buffer
		synced := 0
		for range source.Intn(6) {
			b := make([]byte, 1+source.Intn(5))
			source.Read(b)
			f := []byte(framed(string(b)))
			switch source.Intn(8) {
			case 0:
				f[source.Intn(len(f))] ^= 1 << source.Intn(8)
			case 1:
				f = f[:source.Intn(len(f))]
			case 2:
				f = b
			}
			all.Write(f)
			if source.Intn(2) == 0 {
				synced = all.Len()
			}
		}
		anyBytes(t, all.Bytes(), synced)
		anyBytes(t, all.Bytes(), source.Intn(all.Len()+1))
	}
}

func FuzzOpen(f *testing.F) {
	f.Add([]byte{}, 0)
	f.Add([]byte(frames("a", "bc")), 6)
	f.Add([]byte(framed("a")+"\x00"), 7)
	f.Add([]byte(framed("a")[:4]), math.MaxInt)
	f.Fuzz(func(t *testing.T, b []byte, synced int) {
		anyBytes(t, b, min(max(synced, 0), len(b)))
	})
}
