package stable

import (
	"bytes"
	"encoding/binary"
	"hash/crc32"
	"maps"
	"math"
	"math/rand"
	"slices"
	"strings"
	"testing"

	"quorate/api"
	"quorate/disk"
)

const most = math.MaxUint64 // the greatest number, the greatest slot

var none api.Ballot

func of(n uint64, r int) api.Ballot { return api.Ballot{N: n, R: r} }

// The test's own bytes of records, and of the log.

// framed is the frame of contents.
func framed(inside string) string {
	b := binary.AppendUvarint(nil, uint64(len(inside)))
	b = binary.LittleEndian.AppendUint32(b, crc32.Checksum([]byte(inside), crc32.MakeTable(crc32.Castagnoli)))
	return string(b) + inside
}

// frames are the frames of all of these.
func frames(insides ...string) string {
	var all strings.Builder
	for _, s := range insides {
		all.WriteString(framed(s))
	}
	return all.String()
}

// numbers are these numbers as bytes.
func numbers(l ...uint64) string {
	var b []byte
	for _, n := range l {
		b = binary.AppendUvarint(b, n)
	}
	return string(b)
}

func promiseRecord(b api.Ballot) string { return numbers(1, b.N, uint64(b.R)) }

func voteRecord(slot uint64, b api.Ballot, batch string) string {
	return numbers(2, slot, b.N, uint64(b.R), uint64(len(batch))) + batch
}

func snapRecord(base uint64, s string) string { return numbers(3, base, uint64(len(s))) + s }

// act is an update, beside the program's own.
type act struct {
	kind byte
	slot uint64
	b    api.Ballot
	text string
}

func promise(n uint64, r int) act { return act{kind: 1, b: of(n, r)} }

func voteOf(slot, n uint64, r int, batch string) act {
	return act{kind: 2, slot: slot, b: of(n, r), text: batch}
}

func snapOf(base uint64, s string) act { return act{kind: 3, slot: base, text: s} }

func (x act) record() string {
	switch x.kind {
	case 1:
		return promiseRecord(x.b)
	case 2:
		return voteRecord(x.slot, x.b, x.text)
	}
	return snapRecord(x.slot, x.text)
}

func (x act) do(s *Store) api.Errno {
	switch x.kind {
	case 1:
		return s.SetPromise(x.b)
	case 2:
		return s.SetVote(api.Vote{Slot: x.slot, B: x.b, Batch: []byte(x.text)})
	}
	return s.SetSnap(x.slot, []byte(x.text))
}

// insides are the records of updates.
func insides(l ...act) []string {
	var out []string
	for _, x := range l {
		out = append(out, x.record())
	}
	return out
}

// told is a store as the chapter tells it: its votes are in the order of their slots.
type told struct {
	promise api.Ballot
	base    uint64
	snap    string
	votes   []act
}

// judge is the error of an update.
func (m *told) judge(x act) api.Errno {
	if x.kind != 3 {
		if !slices.Contains([]int{0, 1, 2, 3, 4, 5, 6}, x.b.R) {
			return api.ErrArg
		}
		if x.b.N < m.promise.N || x.b.N == m.promise.N && x.b.R < m.promise.R {
			return api.ErrArg
		}
	}
	if x.kind != 1 && x.slot <= m.base {
		return api.ErrOutside
	}
	return api.OK
}

// do does an update, if it is valid.
func (m *told) do(x act) api.Errno {
	if e := m.judge(x); e != api.OK {
		return e
	}
	if x.kind != 3 {
		m.promise = x.b
	}
	switch x.kind {
	case 2:
		m.votes = slices.DeleteFunc(m.votes, func(v act) bool { return v.slot == x.slot })
		at := 0
		for at < len(m.votes) && m.votes[at].slot < x.slot {
			at++
		}
		m.votes = slices.Insert(m.votes, at, x)
	case 3:
		m.base, m.snap = x.slot, x.text
		m.votes = slices.DeleteFunc(m.votes, func(v act) bool { return v.slot <= x.slot })
	}
	return api.OK
}

// after is what is told after updates, all of them valid.
func after(t testing.TB, l ...act) *told {
	t.Helper()
	m := &told{}
	for _, x := range l {
		if e := m.do(x); e != api.OK {
			t.Fatalf("the test's own update %v is not valid: %v", x, e)
		}
	}
	return m
}

// same tells whether a vote is what is told.
func same(v api.Vote, x act) bool {
	return v.Slot == x.slot && v.B == x.b && string(v.Batch) == x.text
}

// has holds all that a store answers against what is told.
func has(t testing.TB, s *Store, m *told) {
	t.Helper()
	if s.Promise() != m.promise || s.Base() != m.base || string(s.Snap()) != m.snap {
		t.Errorf("promise %v, base %d, snapshot %.40q, want %v, %d, %.40q", s.Promise(), s.Base(), s.Snap(), m.promise, m.base, m.snap)
	}
	asked := []uint64{0, 1, m.base - 1, m.base, m.base + 1, most - 1, most}
	for _, x := range m.votes {
		asked = append(asked, x.slot-1, x.slot, x.slot+1)
	}
	for _, slot := range asked {
		place := slices.IndexFunc(m.votes, func(x act) bool { return x.slot == slot })
		v, is := s.Vote(slot)
		if is != (place >= 0) || is && !same(v, m.votes[place]) || !is && !same(v, act{}) {
			t.Errorf("Vote(%d): %v, %v, want of %v", slot, v, is, m.votes)
		}
		first := 0
		for first < len(m.votes) && m.votes[first].slot < slot {
			first++
		}
		if l := s.Votes(slot); !slices.EqualFunc(l, m.votes[first:], same) {
			t.Errorf("Votes(%d): %v, want %v", slot, l, m.votes[first:])
		}
	}
}

// is holds a disk against its bytes, how many of them are synced, and whether it is dead.
func is(t testing.TB, d *disk.Disk, want string, synced int, dead bool) {
	t.Helper()
	if got := d.Bytes(); string(got) != want || d.Synced() != synced || d.Dead() != dead {
		t.Errorf("disk %.100q, %d synced, dead %v, want %.100q, %d, %v", got, d.Synced(), d.Dead(), want, synced, dead)
	}
}

func errno(t testing.TB, name string, got, want api.Errno) {
	t.Helper()
	if got != want {
		t.Errorf("%s: %v, want %v", name, got, want)
	}
}

// with is a disk of bytes that are synced and bytes that are not.
func with(t testing.TB, synced, loose string) *disk.Disk {
	t.Helper()
	d := disk.New()
	errno(t, "the disk's Append", d.Append([]byte(synced)), api.OK)
	errno(t, "the disk's Sync", d.Sync(), api.OK)
	errno(t, "the disk's Append", d.Append([]byte(loose)), api.OK)
	return d
}

// opens opens a disk's store.
func opens(t testing.TB, d *disk.Disk) *Store {
	t.Helper()
	s, e := Open(d)
	if s == nil || e != api.OK {
		t.Fatalf("Open: %v, %v", s, e)
	}
	return s
}

// opensAs opens a disk that has just the updates then, all of them synced; again, too.
func opensAs(t testing.TB, d *disk.Disk, l ...act) *Store {
	t.Helper()
	all := frames(insides(l...)...)
	for range 2 {
		has(t, opens(t, d), after(t, l...))
		is(t, d, all, len(all), false)
	}
	return opens(t, d)
}

// refused holds that Open returns an error, no store, and what the disk has behind it; again, too.
func refused(t testing.TB, d *disk.Disk, want api.Errno, bytes string, synced int, dead bool) {
	t.Helper()
	for range 2 {
		if s, e := Open(d); s != nil || e != want {
			t.Errorf("Open: %v, %v, want %v", s, e, want)
		}
		is(t, d, bytes, synced, dead)
	}
}

// built is a store on a new disk after updates, the first ones of them synced.
func built(t testing.TB, synced int, l ...act) (*Store, *disk.Disk) {
	t.Helper()
	d := disk.New()
	s := opens(t, d)
	for i, x := range l {
		if i == synced {
			errno(t, "Sync", s.Sync(), api.OK)
		}
		if e := x.do(s); e != api.OK {
			t.Fatalf("%v: %v", x, e)
		}
	}
	if synced == len(l) {
		errno(t, "Sync", s.Sync(), api.OK)
	}
	return s, d
}

// fails ends a disk's power, and gives it again.
func fails(t testing.TB, d *disk.Disk, keep int) {
	t.Helper()
	errno(t, "Crash", d.Crash(keep), api.OK)
	errno(t, "Restart", d.Restart(), api.OK)
}

// fuseIs tells whether so much of the disk's fuse is left, and uses it up.
func fuseIs(t testing.TB, d *disk.Disk, want int) {
	t.Helper()
	before := len(d.Bytes())
	e := d.Append(make([]byte, want+1))
	if got := len(d.Bytes()) - before; got != want || e != api.ErrTorn {
		t.Errorf("%d of the fuse are left, %v, want %d", got, e, want)
	}
}

// some are updates one after another, of each kind, such that each of them changes what a store answers.
func some() []act {
	return []act{
		promise(1, 2),
		voteOf(3, 1, 2, "x"),
		voteOf(1, 2, 0, ""),
		voteOf(3, 2, 1, "yz"),
		voteOf(300, 2, 1, strings.Repeat("b", 200)),
		promise(300, 6),
		snapOf(2, "s"),
		voteOf(4, 300, 6, "\x00\xff"),
		voteOf(most, 1<<63, 0, "last"),
		snapOf(3, ""),
		snapOf(299, strings.Repeat("t", 130)),
		voteOf(301, most, 5, "w"),
		promise(most, 6),
		snapOf(most, "end"),
	}
}

// The chapter's examples

func TestExamples(t *testing.T) {
	d := disk.New()
	s := opens(t, d)
	errno(t, "SetVote", s.SetVote(api.Vote{Slot: 3, B: of(2, 1), Batch: []byte("x")}), api.OK)
	if s.Promise() != of(2, 1) {
		t.Errorf("%v", s.Promise())
	}
	errno(t, "SetPromise", s.SetPromise(of(2, 0)), api.ErrArg)
	errno(t, "SetPromise", s.SetPromise(of(2, 1)), api.OK)
	errno(t, "SetSnap", s.SetSnap(3, []byte("s")), api.OK)
	if l := s.Votes(0); len(l) != 0 {
		t.Errorf("%v", l)
	}
	errno(t, "SetVote", s.SetVote(api.Vote{Slot: 3, B: of(2, 1), Batch: []byte("y")}), api.ErrOutside)
	errno(t, "SetSnap", s.SetSnap(3, []byte("t")), api.ErrOutside)
	is(t, d, frames("\x02\x03\x02\x01\x01x", "\x01\x02\x01", "\x03\x03\x01s"), 0, false)
	opensAs(t, d, voteOf(3, 2, 1, "x"), promise(2, 1), snapOf(3, "s"))
}

// P16.1: Open

func TestOpenOfNoDisk(t *testing.T) {
	for range 2 {
		if s, e := Open(nil); s != nil || e != api.ErrNil {
			t.Errorf("%v, %v", s, e)
		}
	}
}

func TestOpenOfAnEmptyDisk(t *testing.T) {
	d := disk.New()
	s := opensAs(t, d)
	if s.Promise() != none || s.Base() != 0 || len(s.Snap()) != 0 || len(s.Votes(0)) != 0 {
		t.Errorf("%v, %d, %q, %v", s.Promise(), s.Base(), s.Snap(), s.Votes(0))
	}
}

func TestOpenWithoutPower(t *testing.T) {
	record := voteRecord(1, of(1, 0), "x")
	for _, x := range []struct{ synced, loose string }{
		{"", ""}, {framed(record), ""}, {framed(record), framed(record)}, {"", framed(record)[:5]},
		{"\x00", ""}, {framed("\x09"), ""}, // no power comes ahead of what is corrupt
	} {
		d := with(t, x.synced, x.loose)
		errno(t, "Crash", d.Crash(-1), api.OK)
		refused(t, d, api.ErrDead, x.synced+x.loose, len(x.synced), true)
	}
}

func TestOpenOfACorruptLog(t *testing.T) {
	good := frames(insides(some()...)...)
	for _, synced := range []string{"\x00", good + "\x00", good[:len(good)-1], "x" + good, framed("")} {
		for _, loose := range []string{"", good, good[:3], "\x00"} {
			refused(t, with(t, synced, loose), api.ErrHalt, synced+loose, len(synced), false)
		}
	}
}

func TestOpenOfATurnedBit(t *testing.T) {
	l := []act{promise(1, 2), voteOf(3, 1, 2, "xyz"), snapOf(1, "s")}
	all := frames(insides(l...)...)
	for at := range all {
		for bit := range 8 {
			if at == 0 || at == 8 || at == 21 {
				continue // the lengths
			}
			_, d := built(t, len(l), l...)
			errno(t, "Crash", d.Crash(-1), api.OK)
			errno(t, "Turn", d.Turn(8*at+bit), api.OK)
			errno(t, "Restart", d.Restart(), api.OK)
			turned := []byte(all)
			turned[at] ^= 1 << bit
			refused(t, d, api.ErrHalt, string(turned), len(all), false)
		}
	}
}

// Each prefix of updates, whether they are synced or not, with a torn record behind them or not.
func TestOpenOfUpdates(t *testing.T) {
	l := some()
	for n := range len(l) + 1 {
		records := insides(l[:n]...)
		for synced := range n + 1 {
			for _, torn := range []string{"", "\x07", framed(promiseRecord(of(most, 6)))[:9]} {
				opensAs(t, with(t, frames(records[:synced]...), frames(records[synced:]...)+torn), l[:n]...)
			}
		}
	}
}

// A record of each kind by itself, of each size of number.
func TestOpenOfOneRecord(t *testing.T) {
	for _, n := range []uint64{0, 1, 127, 128, 1 << 14, 1<<32 + 5, 1 << 63, most} {
		for r := range api.MaxReplicas {
			for _, batch := range []string{"", "x", strings.Repeat("y", 127), strings.Repeat("z", 128), strings.Repeat("\xff", 20000)} {
				opensAs(t, with(t, framed(promiseRecord(of(n, r))), ""), promise(n, r))
				slot := max(n, 1)
				opensAs(t, with(t, framed(voteRecord(slot, of(n, r), batch)), ""), voteOf(slot, n, r, batch))
				opensAs(t, with(t, "", framed(snapRecord(slot, batch))), snapOf(slot, batch))
			}
		}
	}
}

// begun are updates behind which others come: the promise is 5 of 3, the base 7, and 9 has a vote.
func begun() []act { return []act{voteOf(9, 5, 3, "x"), snapOf(7, "s")} }

// wrongs are contents of frames that are no update's, or of one that is not valid after those that are begun.
func wrongs() map[string]string {
	tens := strings.Repeat("\x80", 9)
	l := map[string]string{
		"no kind":                        "\x00",
		"no kind, with a promise's rest": "\x00\x06\x01",
		"no kind, with a vote's rest":    "\x04\x0a\x06\x01\x01x",
		"no kind, with a snapshot's":     "\x04\x0a\x01x",
		"the kind after the last one":    "\x04",
		"the kind 9":                     "\x09",
		"the kind 257":                   numbers(257, 6, 1),
		"the greatest kind":              numbers(most, 10, 6, 1, 0),
		"a kind of 33 bits":              numbers(1<<32+1, 6, 1),
		"a kind too long":                "\x81\x00\x06\x01",
		"a kind beyond 64 bits":          tens + "\x02\x06\x01",
		"a promise's number too long":    "\x01\x86\x00\x01",
		"a promise's replica too long":   "\x01\x06\x81\x00",
		"a promise beyond 64 bits":       "\x01" + tens + "\x02\x01",
		"a vote's slot too long":         "\x02\x8a\x00\x06\x01\x01x",
		"a vote's number too long":       "\x02\x0a\x86\x80\x00\x01\x01x",
		"a vote's replica too long":      "\x02\x0a\x06\x81\x00\x01x",
		"a vote's length too long":       "\x02\x0a\x06\x01\x81\x00x",
		"a vote's slot beyond 64 bits":   "\x02" + tens + "\x02\x06\x01\x01x",
		"a base too long":                "\x03\x8a\x00\x01x",
		"a snapshot's length too long":   "\x03\x0a\x81\x00x",
		"a base beyond 64 bits":          "\x03" + tens + "\x02\x01x",
		"a promise with one left":        promiseRecord(of(6, 1)) + "\x00",
		"two promises in one":            promiseRecord(of(6, 1)) + promiseRecord(of(6, 1)),
		"a vote with one left":           voteRecord(10, of(6, 1), "x") + "y",
		"a vote with a promise left":     voteRecord(10, of(6, 1), "") + promiseRecord(of(6, 1)),
		"a snapshot with one left":       snapRecord(10, "x") + "\x00",
		"a snapshot with a ballot":       "\x03\x0a\x06\x01\x01x",
		"a vote without its ballot":      "\x02\x0a\x01x",
		"a text far too long":            numbers(3, 10, most),
		"a batch longer than a frame":    numbers(2, 10, 6, 1, api.MaxFrame+1) + "x",
	}
	for _, replica := range []uint64{7, 8, 127, 128, 1 << 31, 1<<32 + 1, 1 << 63, most} {
		l["a promise of "+numbers(replica)] = numbers(1, 6, replica)
		l["a vote of "+numbers(replica)] = numbers(2, 10, 6, replica, 1) + "x"
	}
	for _, b := range []api.Ballot{none, of(0, 6), of(1, 0), of(4, 6), of(5, 0), of(5, 2)} {
		l["a promise below: "+promiseRecord(b)] = promiseRecord(b)
		l["a vote below: "+promiseRecord(b)] = voteRecord(10, b, "x")
	}
	for _, slot := range []uint64{0, 1, 6, 7} {
		l["a vote at "+numbers(slot)] = voteRecord(slot, of(6, 1), "x")
		l["a base "+numbers(slot)] = snapRecord(slot, "t")
	}
	for _, whole := range []string{promiseRecord(of(300, 1)), voteRecord(300, of(300, 1), "xyz"), snapRecord(300, "xyz"), voteRecord(10, of(6, 1), ""), snapRecord(10, "")} {
		for n := 1; n < len(whole); n++ {
			l["ends too soon: "+whole[:n]] = whole[:n]
		}
	}
	return l
}

// Opening the log syncs all, and cuts off what is torn, ahead of what the records tell.
func TestOpenOfWrongRecords(t *testing.T) {
	ahead, behind := frames(insides(begun()...)...), framed(promiseRecord(of(100, 1)))
	for name, wrong := range wrongs() {
		f := framed(wrong)
		whole := ahead + f + behind
		for _, synced := range []int{0, len(ahead), len(ahead) + len(f), len(whole)} {
			d := with(t, whole[:synced], whole[synced:]+"\x05torn")
			refused(t, d, api.ErrHalt, whole, len(whole), false)
		}
		refused(t, with(t, "", ahead+f), api.ErrHalt, ahead+f, len(ahead+f), false)
		if t.Failed() {
			t.Fatalf("%s: %q", name, wrong)
		}
	}
}

// What is wrong only by what is ahead of it: in the other order, or by itself, it is none.
func TestOpenWhereTheOrderDecides(t *testing.T) {
	for _, x := range []struct{ first, second act }{
		{promise(1, 1), promise(1, 2)},
		{promise(1, 6), promise(2, 0)},
		{promise(1, 1), voteOf(1, 1, 2, "x")},
		{voteOf(1, 1, 1, "x"), promise(2, 0)},
		{voteOf(2, 1, 1, "x"), voteOf(1, 2, 0, "x")},
		{snapOf(4, "s"), snapOf(5, "s")},
		{voteOf(4, 0, 0, "x"), snapOf(4, "s")},
		{voteOf(3, 1, 1, "x"), snapOf(4, "s")},
	} {
		opensAs(t, with(t, framed(x.first.record()), framed(x.second.record())), x.first, x.second)
		opensAs(t, with(t, framed(x.second.record()), ""), x.second)
		whole := frames(x.second.record(), x.first.record())
		refused(t, with(t, whole, ""), api.ErrHalt, whole, len(whole), false)
	}
	opensAs(t, with(t, frames(insides(begun()...)...), framed(promiseRecord(of(5, 3)))), append(begun(), promise(5, 3))...)
	opensAs(t, with(t, frames(insides(begun()...)...), framed(voteRecord(8, of(5, 3), ""))), append(begun(), voteOf(8, 5, 3, ""))...)
}

func TestWrongRecordStaysWrong(t *testing.T) {
	wrong := framed("\x09")
	d := with(t, "", wrong)
	refused(t, d, api.ErrHalt, wrong, len(wrong), false)
	fails(t, d, 0)
	refused(t, d, api.ErrHalt, wrong, len(wrong), false)
}

// P16.2: SetPromise, SetVote, SetSnap

// acts does an update with a store: its error, and what the store and its disk have then. So much of the disk is its own.
func acts(t testing.TB, s *Store, d *disk.Disk, m *told, x act, want api.Errno) {
	t.Helper()
	before, synced := string(d.Bytes()), d.Synced()
	errno(t, x.record(), x.do(s), want)
	if e := m.judge(x); e != want {
		t.Fatalf("%v: the test's own error is %v", x, e)
	}
	if want == api.OK {
		m.do(x)
		before += framed(x.record())
	}
	has(t, s, m)
	is(t, d, before, synced, false)
}

func TestSetPromise(t *testing.T) {
	for _, ahead := range [][]act{{promise(5, 3)}, {voteOf(9, 5, 3, "x")}, begun()} {
		for _, x := range []struct {
			b    api.Ballot
			want api.Errno
		}{
			{of(5, 3), api.OK}, {of(5, 4), api.OK}, {of(5, 6), api.OK}, {of(6, 0), api.OK}, {of(6, 6), api.OK}, {of(most, 0), api.OK}, {of(most, 6), api.OK},
			{of(5, 2), api.ErrArg}, {of(5, 0), api.ErrArg}, {of(4, 6), api.ErrArg}, {of(0, 6), api.ErrArg}, {of(0, 3), api.ErrArg}, {none, api.ErrArg},
			{of(6, -1), api.ErrArg}, {of(6, 7), api.ErrArg}, {of(6, 8), api.ErrArg}, {of(6, math.MinInt), api.ErrArg}, {of(6, math.MaxInt), api.ErrArg}, {of(most, 7), api.ErrArg}, {of(most, -1), api.ErrArg}, {of(5, 7), api.ErrArg},
		} {
			s, d := built(t, 1, ahead...)
			acts(t, s, d, after(t, ahead...), act{kind: 1, b: x.b}, x.want)
		}
	}
}

func TestSetPromiseOfNone(t *testing.T) {
	s, d := built(t, 0)
	m := &told{}
	acts(t, s, d, m, promise(0, 0), api.OK)
	acts(t, s, d, m, promise(0, 0), api.OK)
	acts(t, s, d, m, promise(0, 1), api.OK)
	acts(t, s, d, m, promise(0, 0), api.ErrArg)
	acts(t, s, d, m, promise(0, -1), api.ErrArg)
	acts(t, s, d, m, promise(0, 7), api.ErrArg)
	acts(t, s, d, m, promise(0, 6), api.OK)
	acts(t, s, d, m, promise(1, 0), api.OK)
	opensAs(t, d, promise(0, 0), promise(0, 0), promise(0, 1), promise(0, 6), promise(1, 0))
}

func TestSetPromiseLeavesTheRest(t *testing.T) {
	s, d := built(t, 0, begun()...)
	m := after(t, begun()...)
	acts(t, s, d, m, promise(500, 1), api.OK)
	if v, is := s.Vote(9); !is || v.B != of(5, 3) {
		t.Errorf("the vote has %v, %v", v, is)
	}
}

func TestSetVote(t *testing.T) {
	long := strings.Repeat("b", 30000)
	for _, x := range []struct {
		act
		want api.Errno
	}{
		{voteOf(8, 5, 3, "y"), api.OK}, // directly above the base, at the promise
		{voteOf(8, 5, 4, "y"), api.OK},
		{voteOf(8, 6, 0, ""), api.OK},
		{voteOf(8, most, 6, long), api.OK},
		{voteOf(9, 5, 3, "y"), api.OK}, // the slot has a vote already
		{voteOf(9, 5, 3, "x"), api.OK},
		{voteOf(9, 7, 0, ""), api.OK},
		{voteOf(10, 5, 3, "y"), api.OK},
		{voteOf(1<<63, 5, 3, "y"), api.OK},
		{voteOf(most-1, 5, 3, "y"), api.OK},
		{voteOf(most, 5, 3, "y"), api.OK},
		{voteOf(7, 5, 3, "y"), api.ErrOutside},
		{voteOf(6, 5, 3, "y"), api.ErrOutside},
		{voteOf(1, 6, 0, ""), api.ErrOutside},
		{voteOf(0, 6, 0, long), api.ErrOutside},
		{voteOf(8, 5, 2, "y"), api.ErrArg},
		{voteOf(8, 4, 6, "y"), api.ErrArg},
		{voteOf(9, 0, 0, "y"), api.ErrArg},
		{voteOf(most, 5, 0, long), api.ErrArg},
		{voteOf(8, 6, 7, "y"), api.ErrArg},
		{voteOf(8, 6, -1, "y"), api.ErrArg},
		{voteOf(8, most, math.MaxInt, ""), api.ErrArg},
		{voteOf(8, most, math.MinInt, ""), api.ErrArg},
		{voteOf(7, 4, 6, "y"), api.ErrArg}, // the ballot comes ahead of the slot
		{voteOf(0, 6, 7, "y"), api.ErrArg},
		{voteOf(7, 6, -1, long), api.ErrArg},
	} {
		s, d := built(t, 1, begun()...)
		acts(t, s, d, after(t, begun()...), x.act, x.want)
	}
}

func TestSetVoteOfANewStore(t *testing.T) {
	for _, x := range []struct {
		act
		want api.Errno
	}{
		{voteOf(1, 0, 0, "y"), api.OK}, {voteOf(1, 0, 0, ""), api.OK}, {voteOf(most, 0, 6, "y"), api.OK}, {voteOf(1, 0, 7, "y"), api.ErrArg}, {voteOf(0, 1, 1, "y"), api.ErrOutside}, {voteOf(0, 0, -1, "y"), api.ErrArg},
	} {
		s, d := built(t, 0)
		acts(t, s, d, &told{}, x.act, x.want)
	}
}

// The promise is that of the vote, whether its slot had one or not.
func TestSetVoteRaisesThePromise(t *testing.T) {
	s, d := built(t, 0)
	m := &told{}
	acts(t, s, d, m, voteOf(2, 3, 1, "a"), api.OK)
	acts(t, s, d, m, promise(3, 0), api.ErrArg)
	acts(t, s, d, m, voteOf(1, 3, 0, "b"), api.ErrArg)
	acts(t, s, d, m, voteOf(2, 4, 0, "c"), api.OK)
	acts(t, s, d, m, voteOf(1, 3, 6, "d"), api.ErrArg)
	acts(t, s, d, m, voteOf(1, 4, 0, "e"), api.OK)
	acts(t, s, d, m, promise(4, 0), api.OK)
}

func TestSetSnap(t *testing.T) {
	ahead := []act{voteOf(11, 5, 3, "c"), voteOf(9, 5, 3, "a"), voteOf(10, 5, 3, "b"), voteOf(most, 5, 4, "d"), snapOf(7, "s")}
	for _, text := range []string{"", "t", "s", strings.Repeat("\x00\xff", 20000)} {
		for _, x := range []struct {
			base  uint64
			want  api.Errno
			votes int
		}{
			{8, api.OK, 4}, {9, api.OK, 3}, {10, api.OK, 2}, {11, api.OK, 1}, {12, api.OK, 1}, {most - 1, api.OK, 1}, {most, api.OK, 0},
			{7, api.ErrOutside, 4}, {6, api.ErrOutside, 4}, {1, api.ErrOutside, 4}, {0, api.ErrOutside, 4},
		} {
			s, d := built(t, 2, ahead...)
			m := after(t, ahead...)
			acts(t, s, d, m, snapOf(x.base, text), x.want)
			if n := len(s.Votes(0)); n != x.votes {
				t.Errorf("SetSnap(%d): %d votes, want %d", x.base, n, x.votes)
			}
			acts(t, s, d, m, snapOf(x.base, text), api.ErrOutside)
		}
	}
}

func TestSetSnapOfANewStore(t *testing.T) {
	s, d := built(t, 0)
	m := &told{}
	acts(t, s, d, m, snapOf(0, "s"), api.ErrOutside)
	acts(t, s, d, m, snapOf(0, ""), api.ErrOutside)
	acts(t, s, d, m, snapOf(1, "s"), api.OK)
	acts(t, s, d, m, snapOf(2, ""), api.OK)
	acts(t, s, d, m, snapOf(most, "t"), api.OK)
	acts(t, s, d, m, snapOf(most, "u"), api.ErrOutside)
	acts(t, s, d, m, voteOf(most, 1, 1, "x"), api.ErrOutside)
	acts(t, s, d, m, promise(1, 1), api.OK)
	opensAs(t, d, snapOf(1, "s"), snapOf(2, ""), snapOf(most, "t"), promise(1, 1))
}

// Nil lists are empty ones.
func TestSetOfNilLists(t *testing.T) {
	s, d := built(t, 0)
	errno(t, "SetVote", s.SetVote(api.Vote{Slot: 2, B: of(1, 1)}), api.OK)
	errno(t, "SetVote", s.SetVote(api.Vote{Slot: 3, B: of(1, 1), Batch: []byte{}}), api.OK)
	errno(t, "SetSnap", s.SetSnap(1, nil), api.OK)
	errno(t, "SetSnap", s.SetSnap(2, []byte{}), api.OK)
	opensAs(t, d, voteOf(2, 1, 1, ""), voteOf(3, 1, 1, ""), snapOf(1, ""), snapOf(2, ""))
}

func TestEachUpdate(t *testing.T) {
	s, d := built(t, 0)
	m := &told{}
	for i, x := range some() {
		acts(t, s, d, m, x, api.OK)
		if i%3 == 0 {
			errno(t, "Sync", s.Sync(), api.OK)
		}
	}
	opensAs(t, d, some()...)
}

// The records' bytes, written out.
func TestRecords(t *testing.T) {
	_, d := built(t, 0, promise(0, 0), promise(300, 2), voteOf(1, 300, 2, ""), voteOf(128, 16384, 6, "ab"), snapOf(127, strings.Repeat("q", 128)), snapOf(1<<63, ""), voteOf(most, most, 0, "\x00"))
	tens := strings.Repeat("\xff", 9) + "\x01"
	is(t, d, frames(
		"\x01\x00\x00",
		"\x01\xac\x02\x02",
		"\x02\x01\xac\x02\x02\x00",
		"\x02\x80\x01\x80\x80\x01\x06\x02ab",
		"\x03\x7f\x80\x01"+strings.Repeat("q", 128),
		"\x03"+strings.Repeat("\x80", 9)+"\x01\x00",
		"\x02"+tens+tens+"\x00\x01\x00",
	), 0, false)
}

// What the log refuses

// kinds are updates of each kind that are valid after those that are begun.
func kinds() []act {
	return []act{promise(6, 1), voteOf(8, 6, 1, "y"), voteOf(9, 5, 3, "yz"), snapOf(9, "t"), snapOf(8, "")}
}

// The longest texts that a frame has room for, and those that are longer by a byte.
func TestUpdatesThatAreTooLong(t *testing.T) {
	for _, x := range []act{voteOf(8, 6, 1, ""), voteOf(most, most, 6, ""), snapOf(8, ""), snapOf(most, "")} {
		room := api.MaxFrame - len(x.record()) - 2 // a length of 3 bytes
		for n := room - 2; n <= room+2; n++ {
			x.text = strings.Repeat("z", n)
			s, d := built(t, 1, begun()...)
			m := after(t, begun()...)
			if n <= room {
				acts(t, s, d, m, x, api.OK)
				errno(t, "Sync", s.Sync(), api.OK)
				opensAs(t, d, append(begun(), x)...)
				continue
			}
			before, synced := string(d.Bytes()), d.Synced()
			errno(t, "too long", x.do(s), api.ErrLong)
			has(t, s, m)
			is(t, d, before, synced, false)
			opensAs(t, d, begun()...)
		}
		x.text = strings.Repeat("z", 1<<20)
		s, _ := built(t, 1, begun()...)
		errno(t, "far too long", x.do(s), api.ErrLong)
		has(t, s, after(t, begun()...))
	}
}

func TestUpdatesWithoutPower(t *testing.T) {
	for _, x := range kinds() {
		s, d := built(t, 1, begun()...)
		m := after(t, begun()...)
		errno(t, "Crash", d.Crash(-1), api.OK)
		all, synced := string(d.Bytes()), d.Synced()
		for range 2 {
			errno(t, "without power", x.do(s), api.ErrDead)
			errno(t, "Sync", s.Sync(), api.ErrDead)
			has(t, s, m)
			is(t, d, all, synced, true)
		}
		errno(t, "Restart", d.Restart(), api.OK)
		opensAs(t, d, begun()...)
	}
}

// A fuse of every length: the update is there only if its whole frame is.
func TestUpdatesAtEachFuse(t *testing.T) {
	for _, x := range kinds() {
		f := framed(x.record())
		for fuse := range len(f) + 3 {
			s, d := built(t, 1, begun()...)
			m := after(t, begun()...)
			before, synced := string(d.Bytes()), d.Synced()
			errno(t, "Fuse", d.Fuse(fuse), api.OK)
			if fuse >= len(f) {
				errno(t, "a fuse that is long enough", x.do(s), api.OK)
				m.do(x)
				has(t, s, m)
				is(t, d, before+f, synced, false)
				fuseIs(t, d, fuse-len(f))
				continue
			}
			errno(t, "a fuse that is used up", x.do(s), api.ErrTorn)
			has(t, s, m)
			is(t, d, before+f[:fuse], synced, true)
			errno(t, "again", x.do(s), api.ErrDead)
			errno(t, "Sync", s.Sync(), api.ErrDead)
			has(t, s, m)
			refused(t, d, api.ErrDead, before+f[:fuse], synced, true)
			errno(t, "Restart", d.Restart(), api.OK)
			opensAs(t, d, begun()...)
		}
	}
}

// Which error comes first; with it nothing is changed, nor is a fuse used.
func TestWhichErrorComesFirst(t *testing.T) {
	long := strings.Repeat("z", api.MaxFrame)
	for _, x := range []struct {
		name string
		act
		on, dead api.Errno // with power, and without
	}{
		{"replica", promise(6, 7), api.ErrArg, api.ErrArg},
		{"below", promise(5, 2), api.ErrArg, api.ErrArg},
		{"replica, slot, long", voteOf(7, 6, -1, long), api.ErrArg, api.ErrArg},
		{"below, slot, long", voteOf(0, 5, 2, long), api.ErrArg, api.ErrArg},
		{"below, long", voteOf(8, 5, 2, long), api.ErrArg, api.ErrArg},
		{"slot, long", voteOf(7, 5, 3, long), api.ErrOutside, api.ErrOutside},
		{"slot", voteOf(7, 5, 3, "y"), api.ErrOutside, api.ErrOutside},
		{"base, long", snapOf(7, long), api.ErrOutside, api.ErrOutside},
		{"base", snapOf(0, ""), api.ErrOutside, api.ErrOutside},
		{"a long vote", voteOf(8, 5, 3, long), api.ErrLong, api.ErrDead},
		{"a long snapshot", snapOf(8, long), api.ErrLong, api.ErrDead},
		{"a vote", voteOf(8, 5, 3, "y"), api.ErrTorn, api.ErrDead},
		{"a snapshot", snapOf(8, "t"), api.ErrTorn, api.ErrDead},
		{"a promise", promise(5, 3), api.ErrTorn, api.ErrDead},
	} {
		s, d := built(t, 1, begun()...)
		m := after(t, begun()...)
		before, synced := string(d.Bytes()), d.Synced()
		errno(t, "Fuse", d.Fuse(3), api.OK)
		errno(t, x.name, x.do(s), x.on)
		has(t, s, m)
		if x.on != api.ErrTorn {
			is(t, d, before, synced, false)
			fuseIs(t, d, 3)
		}
		all := string(d.Bytes())
		errno(t, x.name+", without power", x.do(s), x.dead)
		has(t, s, m)
		is(t, d, all, synced, true)

		var nobody *Store
		errno(t, x.name+", of nil", x.do(nobody), api.ErrNil)
	}
}

func TestSync(t *testing.T) {
	d := disk.New()
	s := opens(t, d)
	errno(t, "Sync", s.Sync(), api.OK)
	is(t, d, "", 0, false)
	all := ""
	for _, x := range some() {
		synced := len(all)
		errno(t, "an update", x.do(s), api.OK)
		all += framed(x.record())
		is(t, d, all, synced, false)
		for range 2 {
			errno(t, "Sync", s.Sync(), api.OK)
			is(t, d, all, len(all), false)
		}
	}
	has(t, s, after(t, some()...))
	fails(t, d, 0)
	opensAs(t, d, some()...)
	errno(t, "Crash", d.Crash(0), api.OK)
	errno(t, "Sync", s.Sync(), api.ErrDead)
}

// Sync writes nothing: it uses no fuse.
func TestSyncWithAFuse(t *testing.T) {
	s, d := built(t, 0, begun()...)
	errno(t, "Fuse", d.Fuse(0), api.OK)
	errno(t, "Sync", s.Sync(), api.OK)
	all := frames(insides(begun()...)...)
	is(t, d, all, len(all), false)
	fuseIs(t, d, 0)
}

// P16.3: what is asked

func TestVotesFromEachSlot(t *testing.T) {
	s, _ := built(t, 0, voteOf(300, 1, 0, "d"), voteOf(2, 1, 0, "a"), voteOf(7, 1, 1, "c"), voteOf(5, 1, 2, "b"), voteOf(most, 1, 3, "e"))
	for _, x := range []struct {
		from uint64
		want []uint64
	}{
		{0, []uint64{2, 5, 7, 300, most}}, {1, []uint64{2, 5, 7, 300, most}}, {2, []uint64{2, 5, 7, 300, most}}, {3, []uint64{5, 7, 300, most}}, {5, []uint64{5, 7, 300, most}}, {6, []uint64{7, 300, most}}, {300, []uint64{300, most}}, {301, []uint64{most}}, {most, []uint64{most}},
	} {
		var got []uint64
		for _, v := range s.Votes(x.from) {
			got = append(got, v.Slot)
		}
		if !slices.Equal(got, x.want) {
			t.Errorf("Votes(%d): %v, want %v", x.from, got, x.want)
		}
	}
	errno(t, "SetSnap", s.SetSnap(300, nil), api.OK)
	if l := s.Votes(0); len(l) != 1 || l[0].Slot != most {
		t.Errorf("%v", l)
	}
	errno(t, "SetSnap", s.SetSnap(most, nil), api.OK)
	for _, from := range []uint64{0, 1, 300, most} {
		if l := s.Votes(from); len(l) != 0 {
			t.Errorf("Votes(%d): %v", from, l)
		}
	}
}

func TestVotesBehindAll(t *testing.T) {
	s, _ := built(t, 0, voteOf(3, 1, 0, "a"), voteOf(4, 1, 0, "b"))
	for _, from := range []uint64{5, 6, 1 << 32, 1<<32 + 3, most} {
		if l := s.Votes(from); len(l) != 0 {
			t.Errorf("Votes(%d): %v", from, l)
		}
	}
}

func TestManyVotesInOrder(t *testing.T) {
	source := rand.New(rand.NewSource(1))
	d := disk.New()
	s, m := opens(t, d), &told{}
	for _, i := range source.Perm(500) {
		x := voteOf(uint64(i+1)*3, 1, 1, numbers(uint64(i)))
		errno(t, "SetVote", x.do(s), api.OK)
		m.do(x)
	}
	has(t, s, m)
	has(t, opens(t, d), m)
	for range 3 {
		x := snapOf(m.base+200, "s")
		errno(t, "SetSnap", x.do(s), api.OK)
		m.do(x)
		has(t, s, m)
	}
	has(t, opens(t, d), m)
}

func TestVote(t *testing.T) {
	s, _ := built(t, 0, voteOf(3, 1, 0, "a"), voteOf(5, 1, 2, "b"))
	for _, slot := range []uint64{0, 1, 2, 4, 6, 1<<32 + 3, most} {
		if v, is := s.Vote(slot); is || v.Slot != 0 || v.B != none || len(v.Batch) != 0 {
			t.Errorf("Vote(%d): %v, %v", slot, v, is)
		}
	}
	if v, is := s.Vote(3); !is || !same(v, voteOf(3, 1, 0, "a")) {
		t.Errorf("%v, %v", v, is)
	}
	errno(t, "SetSnap", s.SetSnap(4, nil), api.OK)
	if v, is := s.Vote(3); is || v.Slot != 0 || v.B != none || len(v.Batch) != 0 {
		t.Errorf("of a slot that was removed: %v, %v", v, is)
	}
	if v, is := s.Vote(5); !is || !same(v, voteOf(5, 1, 2, "b")) {
		t.Errorf("%v, %v", v, is)
	}
}

// A store answers without power what it had.
func TestQueriesWithoutPower(t *testing.T) {
	s, d := built(t, 2, some()...)
	errno(t, "Crash", d.Crash(0), api.OK)
	has(t, s, after(t, some()...))
}

func TestNilStore(t *testing.T) {
	var s *Store
	for _, x := range append(kinds(), promise(0, -1), voteOf(0, 0, 7, ""), snapOf(0, "")) {
		errno(t, "an update of nil", x.do(s), api.ErrNil)
	}
	errno(t, "Sync of nil", s.Sync(), api.ErrNil)
	has(t, s, &told{})
	for _, slot := range []uint64{0, 1, most} {
		if v, is := s.Vote(slot); is || v.Slot != 0 || v.B != none || v.Batch != nil || s.Votes(slot) != nil {
			t.Errorf("%d of nil: %v, %v, %v", slot, v, is, s.Votes(slot))
		}
	}
}

// R1: nor does one that no call made panic.
func TestStoreThatNoCallMade(t *testing.T) {
	s := new(Store)
	for _, x := range kinds() {
		errno(t, "an update", x.do(s), api.ErrNil)
	}
	errno(t, "Sync", s.Sync(), api.ErrNil)
	has(t, s, &told{})
}

// R2, R3

// scribble writes to bytes, and to their spare capacity.
func scribble(b []byte) {
	b = b[:cap(b)]
	for i := range b {
		b[i] = 0x55
	}
}

func TestArgumentsAreLeftAndNotKept(t *testing.T) {
	for _, fuse := range []int{-1, 0, 4, 100} {
		s, d := built(t, 0)
		whole := []byte("0123456789")
		errno(t, "SetVote", s.SetVote(api.Vote{Slot: 2, B: of(1, 0), Batch: whole[:4]}), api.OK)
		errno(t, "SetSnap", s.SetSnap(1, whole[2:6]), api.OK)
		d.Fuse(fuse)
		s.SetVote(api.Vote{Slot: 3, B: of(1, 0), Batch: whole[:0]})
		if string(whole) != "0123456789" {
			t.Errorf("changed: %q", whole)
		}
		l := []act{voteOf(2, 1, 0, "0123"), snapOf(1, "2345"), voteOf(3, 1, 0, "")}
		scribble(whole)
		if d.Dead() {
			l = l[:2]
		}
		has(t, s, after(t, l...))
		d.Restart()
		opensAs(t, d, l...)
	}
}

// One list for all votes: each has what it held when it was set.
func TestSetOfTheSameMemory(t *testing.T) {
	s, d := built(t, 0)
	b := make([]byte, 3, 64)
	var l []act
	for i := range 20 {
		b[i%3]++
		l = append(l, voteOf(uint64(i+5), 1, 1, string(b)))
		errno(t, "SetVote", s.SetVote(api.Vote{Slot: uint64(i + 5), B: of(1, 1), Batch: b}), api.OK)
	}
	errno(t, "SetSnap", s.SetSnap(3, b), api.OK)
	l = append(l, snapOf(3, string(b)))
	scribble(b)
	has(t, s, after(t, l...))
	opensAs(t, d, l...)
}

func TestResultsAreNewMemory(t *testing.T) {
	l := []act{voteOf(3, 1, 1, "abc"), voteOf(5, 1, 1, ""), voteOf(4, 1, 2, strings.Repeat("d", 40)), snapOf(2, "snapshot")}
	m := after(t, l...)
	fresh, d := built(t, 0, l...)
	for _, s := range []*Store{fresh, opens(t, d)} {
		votes, again := s.Votes(0), s.Votes(0)
		v, _ := s.Vote(3)
		snap := s.Snap()
		for i := range votes {
			scribble(votes[i].Batch)
			_ = append(votes[i].Batch, "spoilt it"...)
			for k, x := range votes[i+1:] {
				if !same(x, m.votes[i+1+k]) {
					t.Errorf("the batch of %d shows in that of %d", votes[i].Slot, x.Slot)
				}
			}
		}
		for i := range votes[:cap(votes)] {
			votes[:cap(votes)][i] = api.Vote{Slot: 99}
		}
		scribble(v.Batch)
		_ = append(v.Batch, "spoilt it"...)
		scribble(snap)
		_ = append(snap, "spoilt it"...)
		has(t, s, m)
		if !slices.EqualFunc(again, m.votes, same) {
			t.Errorf("an earlier result: %v", again)
		}
	}
	is(t, d, frames(insides(l...)...), len(frames(insides(l...)...)), false)
}

// Earlier results stay as they are, whatever is done later.
func TestResultsStay(t *testing.T) {
	s, _ := built(t, 0, voteOf(3, 1, 1, "abc"), voteOf(4, 1, 1, "d"), snapOf(2, "snapshot"))
	votes, snap := s.Votes(0), s.Snap()
	v, _ := s.Vote(3)
	errno(t, "SetVote", s.SetVote(api.Vote{Slot: 3, B: of(2, 2), Batch: []byte("xyz")}), api.OK)
	errno(t, "SetSnap", s.SetSnap(3, []byte("SNAPSHOT")), api.OK)
	if !same(v, voteOf(3, 1, 1, "abc")) || !same(votes[0], voteOf(3, 1, 1, "abc")) || !same(votes[1], voteOf(4, 1, 1, "d")) || string(snap) != "snapshot" {
		t.Errorf("%v, %v, %q", v, votes, snap)
	}
}

func TestStoresAreApart(t *testing.T) {
	a, c := built(t, 0, begun()...)
	b, d := built(t, 0)
	acts(t, b, d, &told{}, voteOf(1, 1, 1, "b"), api.OK)
	has(t, a, after(t, begun()...))
	errno(t, "Crash", c.Crash(0), api.OK)
	errno(t, "SetPromise", a.SetPromise(of(9, 0)), api.ErrDead)
	errno(t, "SetPromise", b.SetPromise(of(9, 0)), api.OK)
	errno(t, "Sync", b.Sync(), api.OK)
	errno(t, "Restart", c.Restart(), api.OK)
	opensAs(t, c)
	opensAs(t, d, voteOf(1, 1, 1, "b"), promise(9, 0))
}

// What an earlier store has does not come to a later one by itself.
func TestOpenAfterUpdatesThatWereLost(t *testing.T) {
	l := some()
	_, d := built(t, 5, l...)
	fails(t, d, 0)
	s := opensAs(t, d, l[:5]...)
	m := after(t, l[:5]...)
	for _, x := range l[5:] {
		acts(t, s, d, m, x, api.OK)
	}
}

// P16.4

// Torn at each byte, whatever was synced: the updates whose frames are whole.
func TestPowerFailsAtEachByte(t *testing.T) {
	l := some()
	for synced := range len(l) + 1 {
		first := len(frames(insides(l[:synced]...)...))
		loose := len(frames(insides(l[synced:]...)...))
		for keep := range loose + 1 {
			s, d := built(t, synced, l...)
			has(t, s, after(t, l...))
			is(t, d, frames(insides(l...)...), first, false)
			fails(t, d, keep)
			whole := synced
			for whole < len(l) && len(frames(insides(l[:whole+1]...)...)) <= first+keep {
				whole++
			}
			opensAs(t, d, l[:whole]...)
			if t.Failed() {
				t.Fatalf("%d synced, %d bytes kept", synced, keep)
			}
		}
	}
}

// anyAct is an update at random, near enough to what is told that all errors happen.
func anyAct(source *rand.Rand, m *told) act {
	b := m.promise
	if at := source.Intn(12); at < 2 {
		b = of(b.N+uint64(source.Intn(3))-1, source.Intn(api.MaxReplicas+2)-1)
	} else if at < 5 {
		b = of(b.N+uint64(source.Intn(2)), source.Intn(api.MaxReplicas))
	}
	slot := m.base + uint64(source.Intn(12))
	if source.Intn(40) == 0 {
		slot = source.Uint64() >> source.Intn(64)
	}
	text := strings.Repeat(string(rune('a'+source.Intn(26))), source.Intn(20))
	switch source.Intn(9) {
	case 0, 1:
		return act{kind: 1, b: b}
	case 2:
		return snapOf(m.base+uint64(source.Intn(5))-1, text)
	}
	return act{kind: 2, slot: slot, b: b, text: text}
}

// machine is a store on its disk, and what is told of it: the updates on the disk, how many of them are synced.
type machine struct {
	d      *disk.Disk
	s      *Store
	m      *told
	l      []act
	synced int
}

// goes does an act, with a fuse or without, and tells whether there is power yet.
func (x *machine) goes(t testing.TB, source *rand.Rand, count map[api.Errno]int) bool {
	t.Helper()
	a := anyAct(source, x.m)
	want := x.m.judge(a)
	if want == api.OK && source.Intn(30) == 0 {
		fuse := source.Intn(30)
		errno(t, "Fuse", x.d.Fuse(fuse), api.OK)
		if fuse < len(framed(a.record())) {
			want = api.ErrTorn
		}
	}
	got := a.do(x.s)
	count[got]++
	errno(t, a.record(), got, want)
	if want == api.OK {
		x.m.do(a)
		x.l = append(x.l, a)
	}
	has(t, x.s, x.m)
	if want == api.ErrTorn {
		return false
	}
	x.d.Fuse(-1)
	if source.Intn(8) == 0 {
		errno(t, "Sync", x.s.Sync(), api.OK)
		x.synced = len(x.l)
	}
	return true
}

// reopens opens a disk that has lost what it lost: a prefix of the updates, with all that were synced.
func (x *machine) reopens(t testing.TB) {
	t.Helper()
	errno(t, "Restart", x.d.Restart(), api.OK)
	n, all := x.synced, len(x.d.Bytes())
	for n < len(x.l) && len(frames(insides(x.l[:n+1]...)...)) <= all {
		n++
	}
	x.l = x.l[:n]
	x.s, x.m, x.synced = opensAs(t, x.d, x.l...), after(t, x.l...), n
}

func TestActsAtRandom(t *testing.T) {
	source := rand.New(rand.NewSource(2))
	count := map[api.Errno]int{}
	lost := 0
	for range 250 {
		x := &machine{d: disk.New(), m: &told{}}
		x.s = opens(t, x.d)
		for range 4 {
			power := true
			for range source.Intn(40) {
				if power = x.goes(t, source, count); !power {
					break
				}
			}
			if power {
				keep := source.Intn(len(x.d.Bytes())-x.d.Synced()+2) - 1
				errno(t, "Crash", x.d.Crash(keep), api.OK)
			}
			before := len(x.l)
			x.reopens(t)
			lost += before - len(x.l)
		}
		if t.Failed() {
			t.Fatal()
		}
	}
	for _, e := range []api.Errno{api.OK, api.ErrArg, api.ErrOutside, api.ErrTorn} {
		if count[e] < 100 {
			t.Errorf("%v: only %d times", e, count[e])
		}
	}
	if lost < 100 {
		t.Errorf("only %d updates were lost", lost)
	}
}

// sound holds what is always so of a store.
func sound(t testing.TB, s *Store) {
	t.Helper()
	p := s.Promise()
	for _, v := range s.Votes(0) {
		if v.B.N > p.N || v.B.N == p.N && v.B.R > p.R || v.Slot <= s.Base() {
			t.Errorf("the vote %v, beside the promise %v and the base %d", v, p, s.Base())
		}
	}
	for _, slot := range []uint64{0, 1, s.Base() - 1, s.Base()} {
		if v, is := s.Vote(slot); is && slot <= s.Base() {
			t.Errorf("the vote %v, not above the base %d", v, s.Base())
		}
	}
}

func TestPromiseAndBaseNeverDecrease(t *testing.T) {
	source := rand.New(rand.NewSource(3))
	d := disk.New()
	s := opens(t, d)
	for i := range 4000 {
		p, base := s.Promise(), s.Base()
		x := anyAct(source, &told{promise: p, base: base})
		if source.Intn(3) == 0 {
			x.b = of(uint64(source.Intn(20)), source.Intn(api.MaxReplicas))
			x.slot = uint64(source.Intn(40))
		}
		x.do(s)
		if i%100 == 50 {
			s.Sync()
			d.Crash(0)
			d.Restart()
			s = opens(t, d)
		}
		q := s.Promise()
		if q.N < p.N || q.N == p.N && q.R < p.R || s.Base() < base {
			t.Fatalf("%v: promise %v after %v, base %d after %d", x, q, p, s.Base(), base)
		}
		sound(t, s)
	}
}

// Any records

// decoded is the update whose record this is, by means of the test's own.
func decoded(inside string) (act, bool) {
	b, whole := []byte(inside), true
	number := func() uint64 {
		n, size := binary.Uvarint(b)
		if size <= 0 || size > 1 && b[size-1] == 0 {
			whole = false
			return 0
		}
		b = b[size:]
		return n
	}
	ofNumbers := func() api.Ballot {
		n, r := number(), number()
		whole = whole && r < 7
		return of(n, int(r%7))
	}
	text := func() string {
		n := number()
		if n > uint64(len(b)) {
			whole = false
			return ""
		}
		s := string(b[:n])
		b = b[n:]
		return s
	}
	var x act
	switch number() {
	case 1:
		x = act{kind: 1, b: ofNumbers()}
	case 2:
		x.kind, x.slot, x.b, x.text = 2, number(), ofNumbers(), text()
	case 3:
		x.kind, x.slot, x.text = 3, number(), text()
	default:
		return act{}, false
	}
	return x, whole && len(b) == 0
}

// anyRecords holds Open against the decoder, for records of which none is empty, and returns how many updates there are: below 0 for a corrupt log.
func anyRecords(t testing.TB, records []string) int {
	t.Helper()
	m := &told{}
	var l []act
	all := frames(records...)
	d := with(t, "", all)
	for _, inside := range records {
		x, whole := decoded(inside)
		if !whole || m.do(x) != api.OK {
			refused(t, d, api.ErrHalt, all, len(all), false)
			return -1
		}
		l = append(l, x)
	}
	sound(t, opensAs(t, d, l...))
	return len(l)
}

func TestRecordsAtRandom(t *testing.T) {
	source := rand.New(rand.NewSource(4))
	count := map[int]int{}
	for range 20000 {
		m := &told{}
		var records []string
		for range 1 + source.Intn(4) {
			x := anyAct(source, m)
			m.do(x)
			b := []byte(x.record())
			for range max(0, source.Intn(6)-4) {
				switch at := source.Intn(len(b) + 1); {
				case at == len(b):
					b = append(b, byte(source.Intn(256)))
				case source.Intn(2) == 0:
					b[at] ^= 1 << source.Intn(8)
				case len(b) > 1:
					b = slices.Delete(b, at, at+1)
				}
			}
			records = append(records, string(b))
		}
		count[anyRecords(t, records)]++
		if t.Failed() {
			t.Fatalf("%q", records)
		}
	}
	for _, n := range []int{-1, 1, 2, 3, 4} {
		if count[n] < 100 {
			t.Errorf("%d updates: only %d times", n, count[n])
		}
	}
}

// Each record of up to two bytes, and each of three that begins with a kind.
func TestEachShortRecord(t *testing.T) {
	var good []string
	for a := range 256 {
		for b := -1; b < 256; b++ {
			inside := []byte{byte(a)}
			if b >= 0 {
				inside = append(inside, byte(b))
			}
			if anyRecords(t, []string{string(inside)}) > 0 {
				good = append(good, string(inside))
			}
		}
	}
	if len(good) != 0 {
		t.Errorf("%q", good)
	}
	for kind := range byte(5) {
		for a := range 256 {
			for b := range 256 {
				if anyRecords(t, []string{string([]byte{kind, byte(a), byte(b)})}) > 0 {
					good = append(good, "")
				}
			}
		}
	}
	// The promises of numbers of one byte, of seven replicas; the snapshots of none, with bases of one byte above 0.
	if want := 128*7 + 127; len(good) != want {
		t.Errorf("%d records of three bytes, want %d", len(good), want)
	}
}

func FuzzOpen(f *testing.F) {
	for _, x := range some() {
		f.Add([]byte(frames(x.record())), 0)
	}
	for _, name := range slices.Sorted(maps.Keys(wrongs())) {
		f.Add([]byte(framed(wrongs()[name])), 1000)
	}
	f.Add([]byte(frames(insides(some()...)...)+"\x01\x00"), 20)
	f.Fuzz(func(t *testing.T, b []byte, synced int) {
		synced = min(max(synced, 0), len(b))
		d := with(t, string(b[:synced]), string(b[synced:]))
		s, e := Open(d)
		if (s == nil) != (e != api.OK) || e != api.OK && e != api.ErrHalt {
			t.Fatalf("%v, %v", s, e)
		}
		if e != api.OK {
			return
		}
		sound(t, s)
		if got := d.Bytes(); !bytes.HasPrefix(b, got) || d.Synced() != len(got) || len(got) < synced {
			t.Errorf("the disk has %q, %d synced", got, d.Synced())
		}
		// It is what its bytes tell, record by record.
		rest, m := string(d.Bytes()), &told{}
		for rest != "" {
			n, size := binary.Uvarint([]byte(rest))
			inside := rest[size+4:][:n]
			x, whole := decoded(inside)
			if framed(inside) != rest[:size+4+int(n)] || !whole || m.do(x) != api.OK {
				t.Fatalf("%q was opened", b)
			}
			rest = rest[size+4+int(n):]
		}
		has(t, s, m)
	})
}
