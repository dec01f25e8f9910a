package session

import (
	"bytes"
	"encoding/binary"
	"maps"
	"math"
	"math/rand"
	"slices"
	"strings"
	"testing"

	"quorate/api"
	"quorate/varint"
)

const (
	most  = math.MaxUint32
	limit = 1 << 20 // of the texts that a test's reader takes
)

var longText = strings.Repeat("long text ", 10000)

// kept is a client's number, and the reply that is kept for it.
type kept struct {
	seq   uint32
	reply api.Reply
}

type clients = map[uint32]kept

// text is a reply with the Code Done.
func text(s string) api.Reply { return api.Reply{Text: s} }

// coded is a reply with another Code.
func coded(code uint8, s string) api.Reply { return api.Reply{Code: code, Text: s} }

var old = api.Reply{Code: api.Old}

// item is a client as bytes have it: of whatever numbers.
type item struct {
	client, seq, code uint64
	text              string
}

// items are the bytes of clients, in the order in which they stand there.
func items(l ...item) string {
	b := binary.AppendUvarint(nil, uint64(len(l)))
	for _, x := range l {
		b = binary.AppendUvarint(b, x.client)
		b = binary.AppendUvarint(b, x.seq)
		b = binary.AppendUvarint(b, x.code)
		b = append(binary.AppendUvarint(b, uint64(len(x.text))), x.text...)
	}
	return string(b)
}

// encoded is the bytes of a table, by means of its own.
func encoded(want clients) string {
	var l []item
	for client, k := range want {
		l = append(l, item{uint64(client), uint64(k.seq), uint64(k.reply.Code), k.reply.Text})
	}
	slices.SortFunc(l, func(a, b item) int { return int(int64(a.client) - int64(b.client)) })
	return items(l...)
}

// tableOf is a table with these clients.
func tableOf(want clients) *Table {
	t := New()
	for client, k := range want {
		t.Keep(client, k.seq, k.reply)
	}
	return t
}

// looks tells whether Look returns this.
func looks(t testing.TB, s *Table, client, seq uint32, reply api.Reply, what uint8) {
	t.Helper()
	if r, w := s.Look(client, seq); r != reply || w != what {
		t.Errorf("Look(%d, %d): %.80q of Code %d, %d, want %.80q of Code %d, %d", client, seq, r.Text, r.Code, w, reply.Text, reply.Code, what)
	}
}

// holds tells whether a table has these clients, and no others.
func holds(t testing.TB, s *Table, want clients) {
	t.Helper()
	if s.Len() != len(want) {
		t.Errorf("%d clients, want %d", s.Len(), len(want))
	}
	for client, k := range want {
		looks(t, s, client, k.seq, k.reply, Again)
		if k.seq > 0 {
			looks(t, s, client, k.seq-1, old, Old)
			looks(t, s, client, 0, old, Old)
		}
		if k.seq < most {
			looks(t, s, client, k.seq+1, api.Reply{}, Fresh)
			looks(t, s, client, most, api.Reply{}, Fresh)
		}
		if _, is := want[client+1]; !is {
			looks(t, s, client+1, k.seq, api.Reply{}, Fresh)
		}
	}
	looks(t, s, 0, 0, api.Reply{}, Fresh)
	if got := string(s.Put(nil)); got != encoded(want) {
		t.Errorf("bytes %.80q, want %.80q", got, encoded(want))
	}
}

// P10.1: New, Look, Len

func TestWhatCommandsAreHasTheChaptersNumbers(t *testing.T) {
	if Fresh != 0 || Again != 1 || Old != 2 {
		t.Errorf("%d, %d, %d", Fresh, Again, Old)
	}
}

func TestNew(t *testing.T) {
	s := New()
	holds(t, s, nil)
	for _, client := range []uint32{0, 1, 2, most} {
		for _, seq := range []uint32{0, 1, most} {
			looks(t, s, client, seq, api.Reply{}, Fresh)
		}
	}
	other := New()
	other.Keep(1, 1, text("x"))
	holds(t, s, nil)
	holds(t, other, clients{1: {1, text("x")}})
}

func TestExample(t *testing.T) {
	s := New()
	x := coded(api.None, "x")
	looks(t, s, 1, 1, api.Reply{}, Fresh)
	s.Keep(1, 3, x)
	looks(t, s, 1, 3, x, Again)
	looks(t, s, 1, 2, old, Old)
	looks(t, s, 1, 4, api.Reply{}, Fresh)
	holds(t, s, clients{1: {3, x}})
}

func TestLook(t *testing.T) {
	for _, seq := range []uint32{1, 2, 127, 128, 1 << 31, most - 1} {
		s := tableOf(clients{5: {seq, text("x")}})
		for _, lesser := range []uint32{0, seq / 2, seq - 1} {
			looks(t, s, 5, lesser, old, Old)
		}
		looks(t, s, 5, seq, text("x"), Again)
		for _, greater := range []uint32{seq + 1, most} {
			looks(t, s, 5, greater, api.Reply{}, Fresh)
		}
		for _, client := range []uint32{0, 1, 4, 6, 5 << 8, most} {
			for _, n := range []uint32{0, seq - 1, seq, seq + 1} {
				looks(t, s, client, n, api.Reply{}, Fresh)
			}
		}
	}
}

func TestLookChangesNothing(t *testing.T) {
	want := clients{1: {3, text("x")}, 2: {0, coded(api.Bad, "")}}
	s := tableOf(want)
	for client := range uint32(4) {
		for _, seq := range []uint32{0, 2, 3, 4, most} {
			s.Look(client, seq)
		}
	}
	holds(t, s, want)
}

func TestNumbersAtTheEnds(t *testing.T) {
	s := New()
	s.Keep(1, 0, text("a"))
	looks(t, s, 1, 0, text("a"), Again)
	looks(t, s, 1, 1, api.Reply{}, Fresh)
	looks(t, s, 1, most, api.Reply{}, Fresh)
	s.Keep(1, 0, text("b"))
	holds(t, s, clients{1: {0, text("a")}})

	s.Keep(1, most, text("c"))
	looks(t, s, 1, most, text("c"), Again)
	looks(t, s, 1, most-1, old, Old)
	looks(t, s, 1, 0, old, Old)
	s.Keep(1, 0, text("d"))
	s.Keep(1, most, text("e"))
	holds(t, s, clients{1: {most, text("c")}})

	s.Keep(most, most, text("f"))
	s.Keep(most-1, 0, text("g"))
	holds(t, s, clients{1: {most, text("c")}, most: {most, text("f")}, most - 1: {0, text("g")}})
}

// P10.1: Keep

func TestKeepOfFreshOnes(t *testing.T) {
	s := New()
	for _, seq := range []uint32{0, 1, 2, 5, 127, 128, 1 << 16, 1 << 31, most - 1, most} {
		reply := coded(uint8(seq%4), strings.Repeat("x", int(seq%100)))
		s.Keep(7, seq, reply)
		holds(t, s, clients{7: {seq, reply}})
	}
}

func TestKeepOfOthersDoesNothing(t *testing.T) {
	want := clients{1: {3, coded(api.None, "x")}, 2: {0, text("y")}, 9: {most, text("")}}
	s := tableOf(want)
	for _, reply := range []api.Reply{{}, text("z"), coded(api.None, "z"), old, coded(255, longText)} {
		for _, x := range []struct{ client, seq uint32 }{
			{1, 3}, {2, 0}, {9, most}, // repeated
			{1, 2}, {1, 1}, {1, 0}, {9, 0}, {9, most - 1}, // old
			{0, 0}, {0, 1}, {0, 3}, {0, 4}, {0, most},
		} {
			s.Keep(x.client, x.seq, reply)
			holds(t, s, want)
		}
	}
}

func TestKeepOfTheClient0DoesNothing(t *testing.T) {
	s := New()
	for _, seq := range []uint32{0, 1, most} {
		s.Keep(0, seq, text("x"))
		looks(t, s, 0, seq, api.Reply{}, Fresh)
		holds(t, s, nil)
	}
	s.Keep(1, 1, text("x"))
	s.Keep(0, 2, text("y"))
	holds(t, s, clients{1: {1, text("x")}})
}

func TestKeepOfEachCode(t *testing.T) {
	for code := range 256 {
		for _, s := range []string{"", "x", "\x00\xff", longText} {
			reply := coded(uint8(code), s)
			table := New()
			table.Keep(1, 3, reply)
			holds(t, table, clients{1: {3, reply}})
			// It takes the place of another one, and another one takes its.
			table.Keep(1, 4, text("y"))
			holds(t, table, clients{1: {4, text("y")}})
			table.Keep(1, 5, reply)
			holds(t, table, clients{1: {5, reply}})
		}
	}
}

func TestReplyThatIsZeroIsKept(t *testing.T) {
	s := tableOf(clients{1: {3, api.Reply{}}})
	holds(t, s, clients{1: {3, api.Reply{}}})
	s.Keep(1, 3, text("x"))
	holds(t, s, clients{1: {3, api.Reply{}}})
}

func TestKeepOfAnotherReply(t *testing.T) {
	s := New()
	want := clients{}
	for _, x := range []struct {
		client, seq uint32
		reply       api.Reply
	}{
		{1, 1, text("a")}, {2, 1, text("b")}, {1, 2, coded(api.None, "")}, {3, 9, text("c")}, {2, 7, coded(api.Bad, "d")}, {1, 3, text("")}, {3, 10, coded(api.Old, "e")}, {most, 1, text("f")}, {2, 8, text("b")}, {1, most, text("g")},
	} {
		s.Keep(x.client, x.seq, x.reply)
		want[x.client] = kept{x.seq, x.reply}
		holds(t, s, want)
	}
}

// P10.1: Copy

func TestCopy(t *testing.T) {
	first := clients{1: {3, text("x")}, 2: {0, coded(api.None, longText)}}
	s := tableOf(first)
	c := s.Copy()
	if c == s || !Same(c, s) {
		t.Error("the copy is the table, or is not equal")
	}
	holds(t, c, first)
	s.Keep(1, 4, text("y"))
	s.Keep(3, 1, text("z"))
	holds(t, c, first)
	c.Keep(2, 1, text("w"))
	c.Keep(4, 4, text("v"))
	holds(t, s, clients{1: {4, text("y")}, 2: {0, coded(api.None, longText)}, 3: {1, text("z")}})
	holds(t, c, clients{1: {3, text("x")}, 2: {1, text("w")}, 4: {4, text("v")}})
	d := c.Copy().Copy()
	c.Keep(9, 9, text(""))
	holds(t, d, clients{1: {3, text("x")}, 2: {1, text("w")}, 4: {4, text("v")}})
}

func TestCopyOfEmptyOne(t *testing.T) {
	s := New()
	c, d := s.Copy(), s.Copy()
	c.Keep(1, 1, text("x"))
	holds(t, s, nil)
	holds(t, d, nil)
	s.Keep(2, 1, text("y"))
	d.Keep(3, 1, text("z"))
	holds(t, s, clients{2: {1, text("y")}})
	holds(t, c, clients{1: {1, text("x")}})
	holds(t, d, clients{3: {1, text("z")}})
}

// R1: no object

func TestNil(t *testing.T) {
	var s *Table
	for _, client := range []uint32{0, 1, most} {
		for _, seq := range []uint32{0, 1, most} {
			looks(t, s, client, seq, api.Reply{}, Fresh)
			s.Keep(client, seq, text("x"))
			looks(t, s, client, seq, api.Reply{}, Fresh)
		}
	}
	if s.Len() != 0 {
		t.Errorf("Len: %d", s.Len())
	}
	if b := s.Put(nil); string(b) != "\x00" {
		t.Errorf("Put: %x", b)
	}
	if b := s.Put(roomy("ab")); string(b) != "ab\x00" {
		t.Errorf("Put: %x", b)
	}
	for range 2 {
		if x, e := Take(nil); x != nil || e != api.ErrNil {
			t.Errorf("Take: %+v, %v", x, e)
		}
	}
}

func TestCopyOfNilIsAnEmptyOne(t *testing.T) {
	var s *Table
	c, d := s.Copy(), s.Copy()
	if c == nil || d == nil {
		t.Fatal("no table")
	}
	holds(t, c, nil)
	c.Keep(1, 1, text("x"))
	holds(t, c, clients{1: {1, text("x")}})
	holds(t, d, nil)
	holds(t, s.Copy(), nil)
	if s.Len() != 0 {
		t.Errorf("Len: %d", s.Len())
	}
}

func TestZeroTableIsEmpty(t *testing.T) {
	s := &Table{}
	holds(t, s, nil)
	holds(t, s.Copy(), nil)
	s.Keep(1, 1, text("x"))
	holds(t, s, clients{1: {1, text("x")}})
}

// P10.2: Put

// roomy is a copy with spare capacity, of bytes that are told apart.
func roomy(b string) []byte {
	long := append([]byte(b), bytes.Repeat([]byte{0xee}, 4096)...)
	return long[:len(b)]
}

func TestPut(t *testing.T) {
	for _, x := range []struct {
		first clients
		want  string
	}{
		{nil, "\x00"},
		{clients{1: {0, text("")}}, "\x01\x01\x00\x00\x00"},
		{clients{1: {3, text("x")}, 9: {0, coded(api.None, "")}}, "\x02\x01\x03\x00\x01x\x09\x00\x01\x00"},
		{clients{127: {127, coded(api.Bad, "ab")}}, "\x01\x7f\x7f\x02\x02ab"},
		{clients{128: {128, coded(api.Old, "ab")}}, "\x01\x80\x01\x80\x01\x03\x02ab"},
		{clients{most: {most, coded(127, "\x00")}}, "\x01\xff\xff\xff\xff\x0f\xff\xff\xff\xff\x0f\x7f\x01\x00"},
		{clients{1: {1, coded(128, "a")}, 2: {1, coded(255, "b")}}, "\x02\x01\x01\x80\x01\x01a\x02\x01\xff\x01\x01b"},
		{clients{256: {1, text("c")}, 3: {1, text("b")}, 2: {9, text("a")}, 255: {1, text("d")}, 1 << 24: {1, text("e")}}, "\x05\x02\x09\x00\x01a\x03\x01\x00\x01b\xff\x01\x01\x00\x01d\x80\x02\x01\x00\x01c\x80\x80\x80\x08\x01\x00\x01e"},
		{clients{4: {5, text(longText)}}, "\x01\x04\x05\x00\xa0\x8d\x06" + longText},
	} {
		s := tableOf(x.first)
		for _, b := range []string{"", "b", "bytes", strings.Repeat("long", 1000)} {
			given := roomy(b)
			spare := slices.Clone(given[:cap(given)])
			got := s.Put(given)
			if string(got) != b+x.want {
				t.Errorf("Put behind %d bytes: %.80q, want %.80q", len(b), got, b+x.want)
			}
			for i := range got[:cap(got)] {
				got[:cap(got)][i] = 'x'
			}
			if !bytes.Equal(given[:cap(given)], spare) {
				t.Error("the given bytes, or their spare capacity, changed")
			}
			if again := s.Put(nil); string(again) != x.want {
				t.Errorf("later bytes show what the caller wrote: %.80q", again)
			}
		}
		holds(t, s, x.first)
	}
}

func TestPutBehindNoBytesOrEmptyOnes(t *testing.T) {
	s := tableOf(clients{1: {1, text("x")}})
	if a, b := s.Put(nil), s.Put([]byte{}); !bytes.Equal(a, b) || string(a) != "\x01\x01\x01\x00\x01x" {
		t.Errorf("%x, %x", a, b)
	}
}

func TestPutIsInTheOrderOfTheClientsHoweverKept(t *testing.T) {
	source := rand.New(rand.NewSource(1))
	numbers := []uint32{1, 2, 3, 9, 10, 11, 127, 128, 255, 256, 1 << 16, 1<<31 - 1, 1 << 31, most - 1, most}
	want := clients{}
	for i, client := range numbers {
		want[client] = kept{uint32(i), coded(uint8(i%4), strings.Repeat("x", i))}
	}
	for range 100 {
		source.Shuffle(len(numbers), func(i, j int) { numbers[i], numbers[j] = numbers[j], numbers[i] })
		s := New()
		for _, client := range numbers {
			k := want[client]
			if k.seq > 0 && source.Intn(2) == 0 {
				s.Keep(client, k.seq-1, text("earlier"))
			}
			s.Keep(client, k.seq, k.reply)
		}
		holds(t, s, want)
	}
}

func TestPutAndTakeOfManyClients(t *testing.T) {
	for _, n := range []int{2, 127, 128, 129, 255, 256, 257, 3000} {
		want := clients{}
		for i := range n {
			want[uint32(i+1)*1000003] = kept{uint32(i) << 20, coded(uint8(i%4), strings.Repeat("v", i%130))}
		}
		holds(t, tableOf(want), want)
		takes(t, encoded(want), want, "")
	}
}

// P10.2: Take

// takes tells whether a reader reads this table, and these bytes are left.
func takes(t testing.TB, b string, want clients, left string) {
	t.Helper()
	r := varint.NewReader([]byte(b), limit)
	s, e := Take(r)
	if s == nil || e != api.OK || r.Err() != api.OK {
		t.Errorf("Take of %.80q: %v, %v", b, e, r.Err())
		return
	}
	holds(t, s, want)
	leaves(t, r, left)
}

// leaves tells whether a reader without an error has these bytes left.
func leaves(t testing.TB, r *varint.Reader, left string) {
	t.Helper()
	for _, c := range []byte(left) {
		if got := r.Byte(); got != c {
			t.Errorf("%x is left, want %x", got, c)
		}
	}
	if e := r.Done(); e != api.OK {
		t.Errorf("other bytes are left than %q: %v", left, e)
	}
}

// refuses tells whether a reader reads no table, by an error of its own, which persists.
func refuses(t testing.TB, b string, longest int, want api.Errno) {
	t.Helper()
	r := varint.NewReader([]byte(b), longest)
	for range 2 {
		if s, e := Take(r); s != nil || e != want || r.Err() != want {
			t.Errorf("Take of %.80q, texts of %d: %+v, %v, %v, want %v", b, longest, s, e, r.Err(), want)
		}
	}
	if n, s := r.Uint(), r.Text(); n != 0 || s != "" || r.Done() != want {
		t.Errorf("behind %.80q: %d, %q, %v", b, n, s, r.Done())
	}
}

// misfits tells whether bytes are read, but as no table: the reader has no error, and what follows is left.
func misfits(t testing.TB, b string) {
	t.Helper()
	for _, left := range []string{"", "\x00", "\xff", "left"} {
		r := varint.NewReader([]byte(b+left), limit)
		if s, e := Take(r); s != nil || e != api.ErrForm || r.Err() != api.OK {
			t.Errorf("Take of %.80q: %+v, %v, %v", b, s, e, r.Err())
		}
		leaves(t, r, left)
	}
}

func TestTake(t *testing.T) {
	for _, want := range []clients{
		nil, {1: {0, text("")}}, {1: {3, text("x")}, 9: {0, coded(api.None, "")}}, {most: {most, coded(api.Old, longText)}}, {1: {1, text("\x00")}, 2: {2, coded(api.Bad, "\xff")}, 128: {128, old}, most: {0, coded(api.Done, "")}},
	} {
		for _, left := range []string{"", "\x00", "\x01\x01\x00\x00\x00", "\xff"} {
			takes(t, encoded(want)+left, want, left)
		}
	}
}

func TestTakeTwice(t *testing.T) {
	one, two := clients{2: {1, text("x")}}, clients{1: {0, old}}
	r := varint.NewReader([]byte(encoded(one)+encoded(two)+encoded(nil)), limit)
	for _, want := range []clients{one, two, nil} {
		s, e := Take(r)
		if e != api.OK {
			t.Fatal(e)
		}
		holds(t, s, want)
	}
	if s, e := Take(r); s != nil || e != api.ErrShort || r.Err() != api.ErrShort {
		t.Errorf("behind the last one: %+v, %v", s, e)
	}
}

func TestTakenOneIsIndependent(t *testing.T) {
	want := clients{1: {1, text("abc")}, 2: {2, text("def")}}
	b := []byte(encoded(want))
	s, e := Take(varint.NewReader(b, limit))
	if e != api.OK {
		t.Fatal(e)
	}
	for i := range b {
		b[i] = 'x'
	}
	holds(t, s, want)
	s.Keep(1, 2, text("y"))
	s.Keep(3, 0, text("z"))
	holds(t, s, clients{1: {2, text("y")}, 2: {2, text("def")}, 3: {0, text("z")}})
	empty, e := Take(varint.NewReader([]byte{0}, 0))
	if e != api.OK {
		t.Fatal(e)
	}
	holds(t, empty, nil)
	empty.Keep(1, 1, text("x"))
	holds(t, empty, clients{1: {1, text("x")}})
}

func TestTakeOfBytesThatEnd(t *testing.T) {
	many := clients{}
	for i := range uint32(200) {
		many[i+100] = kept{i * i, coded(uint8(i%4), "v")}
	}
	for _, want := range []clients{nil, {1: {0, text("")}}, {1: {3, text("x")}, 300: {300, coded(api.None, "yy")}, most: {most, old}}, {7: {7, text(strings.Repeat("v", 200))}}, many} {
		b := encoded(want)
		for n := range len(b) {
			refuses(t, b[:n], limit, api.ErrShort)
		}
	}
}

func TestTakeOfTooManyClients(t *testing.T) {
	one := "\x01\x03\x00\x01x"
	for _, n := range []uint64{2, 3, 127, 128, 1 << 20, 1 << 31, 1 << 32, 1 << 62, 1 << 63, math.MaxUint64} {
		number := string(binary.AppendUvarint(nil, n))
		refuses(t, number, limit, api.ErrShort)
		refuses(t, number+one, limit, api.ErrShort)
		// That clients are not in order comes behind that the bytes end.
		refuses(t, number+one+one[:4], limit, api.ErrShort)
	}
	takes(t, "\x00"+one, nil, one)
	takes(t, "\x01"+one+one, clients{1: {3, text("x")}}, one)
}

func TestTakeOfClientsThatAreNotInOrder(t *testing.T) {
	for _, l := range [][]uint64{
		{2, 1}, {1, 1}, {1, 2, 2}, {1, 3, 2}, {2, 3, 1}, {1, 1, 2}, {2, 1, 3}, {128, 127}, {256, 1}, {256, 255}, {most, 1}, {most, most}, {most, most - 1}, {1, most, 2},
		{0}, {0, 1}, {1, 0}, {0, 0}, {1, 2, 0}, {most, 0},
	} {
		var wrong []item
		for i, client := range l {
			wrong = append(wrong, item{client, uint64(i), uint64(i), "x"})
		}
		misfits(t, items(wrong...))
	}
	// The same client twice, all of it.
	misfits(t, items(item{1, 1, 1, "x"}, item{1, 1, 1, "x"}))
	misfits(t, items(item{1, 1, 1, "x"}, item{1, 2, 1, "x"}))
}

func TestTakeOfNumbersBeyond32Bits(t *testing.T) {
	takes(t, items(item{most, most, 3, "x"}), clients{most: {most, coded(api.Old, "x")}}, "")
	takes(t, items(item{1, most, 0, ""}, item{most - 1, 0, 0, ""}, item{most, most - 1, 0, ""}), clients{1: {most, text("")}, most - 1: {0, text("")}, most: {most - 1, text("")}}, "")
	for _, n := range []uint64{1 << 32, 1<<32 + 1, 1<<32 + 2, 1 << 33, 1 << 63, 1<<63 + 2, math.MaxUint64} {
		for _, wrong := range []item{{n, 1, 1, "x"}, {1, n, 1, "x"}, {1, 1, n, "x"}} {
			misfits(t, items(wrong))
		}
		// Beside a client that may be.
		misfits(t, items(item{1, 1, 1, "x"}, item{n, 1, 1, "x"}))
		misfits(t, items(item{1, 1, 1, "x"}, item{2, n, 1, "x"}))
		misfits(t, items(item{1, 1, 1, "x"}, item{2, 1, n, "x"}))
		misfits(t, items(item{1, n, 1, "x"}, item{2, 1, 1, "x"}))
		misfits(t, items(item{1, 1, n, "x"}, item{2, 1, 1, "x"}))
	}
}

func TestTakeOfCodes(t *testing.T) {
	for code := range uint64(4) {
		want := clients{1: {1, coded(uint8(code), "x")}}
		takes(t, items(item{1, 1, code, "x"}), want, "")
	}
	for _, code := range []uint64{4, 5, 127, 128, 255, 256, 257, 259, most - 1, most, 1 << 32, 1<<32 + 3, math.MaxUint64} {
		misfits(t, items(item{1, 1, code, "x"}))
		misfits(t, items(item{1, 1, 0, "x"}, item{2, 1, code, ""}))
		misfits(t, items(item{1, 1, code, "x"}, item{2, 1, 0, ""}))
	}
	// What Keep takes, Put writes; Take is what refuses it.
	misfits(t, string(tableOf(clients{1: {1, coded(api.Old+1, "x")}}).Put(nil)))
}

func TestTakeOfNumbersThatAreNone(t *testing.T) {
	for _, number := range []string{"\x80\x00", "\x81\x00", "\x80\x80\x00", "\xff\xff\xff\xff\xff\xff\xff\xff\xff\x02", strings.Repeat("\x80", 9) + "\x02", strings.Repeat("\xff", 10)} {
		refuses(t, number+"\x01\x01\x00\x00", limit, api.ErrForm)
		refuses(t, "\x01"+number+"\x01\x00\x00", limit, api.ErrForm)
		refuses(t, "\x01\x01"+number+"\x00\x00", limit, api.ErrForm)
		refuses(t, "\x01\x01\x01"+number+"\x00", limit, api.ErrForm)
		refuses(t, "\x01\x01\x01\x00"+number, limit, api.ErrForm)
		refuses(t, "\x02\x01\x01\x00\x00\x02\x01"+number+"\x00", limit, api.ErrForm)
	}
}

func TestTakeOfTextsThatAreNone(t *testing.T) {
	refuses(t, "\x01\x01\x01\x00\x02x", limit, api.ErrShort)
	refuses(t, "\x01\x01\x01\x00\x01", limit, api.ErrShort)
	refuses(t, "\x01\x01\x01\x00\xff\x01x", limit, api.ErrShort)
	refuses(t, "\x02\x01\x01\x00\x0ax\x02\x01\x00\x01x", limit, api.ErrShort)
	// Above the reader's limit.
	b := items(item{1, 1, 0, "abc"})
	refuses(t, b, 2, api.ErrForm)
	refuses(t, b, 0, api.ErrForm)
	refuses(t, b, -1, api.ErrForm)
	refuses(t, b[:5], 2, api.ErrForm)
	refuses(t, "\x01\x01\x01\x00"+string(binary.AppendUvarint(nil, math.MaxUint64)), limit, api.ErrForm)
	for _, just := range []int{3, 4, math.MaxInt} {
		s, e := Take(varint.NewReader([]byte(b), just))
		if e != api.OK {
			t.Errorf("texts of %d: %v", just, e)
		}
		holds(t, s, clients{1: {1, text("abc")}})
	}
}

// The errors of the reader come first, in the order in which they come; then what is no table.
func TestTakesOrderOfErrors(t *testing.T) {
	for _, wrong := range []string{
		items(item{2, 1, 0, "x"}, item{1, 1, 0, "x"}), items(item{1, 1, 0, "x"}, item{1, 1, 0, "x"}), items(item{0, 1, 0, "x"}), items(item{1 << 32, 1, 0, "x"}), items(item{1, 1 << 32, 0, "x"}), items(item{1, 1, 4, "x"}), items(item{1, 1, 1 << 32, "x"}),
	} {
		misfits(t, wrong)
		for n := range len(wrong) {
			refuses(t, wrong[:n], limit, api.ErrShort)
		}
		refuses(t, "\x03"+wrong[1:], limit, api.ErrShort)
		refuses(t, "\x03"+wrong[1:]+"\x80\x00", limit, api.ErrForm)
		refuses(t, "\x03"+wrong[1:], 0, api.ErrForm)
	}
	// Not the shortest form, and the bytes end behind it.
	refuses(t, "\x02\x80\x00", limit, api.ErrForm)
	refuses(t, "\x02\x00\x00\x00\x00\x80", limit, api.ErrShort)
}

func TestTakeOfReaderThatHadAnError(t *testing.T) {
	for _, x := range []struct {
		spoil func(r *varint.Reader)
		want  api.Errno
	}{
		{func(r *varint.Reader) { r.Text() }, api.ErrForm},
		{func(r *varint.Reader) { r.Done() }, api.ErrForm},
		{func(r *varint.Reader) {
			for range 100 {
				r.Byte()
			}
		}, api.ErrShort},
	} {
		r := varint.NewReader([]byte("\x40\x00\x01\x01\x00\x00"), 1)
		x.spoil(r)
		for range 2 {
			if s, e := Take(r); s != nil || e != x.want || r.Err() != x.want {
				t.Errorf("%+v, %v, %v, want %v", s, e, r.Err(), x.want)
			}
		}
	}
}

// decoded is what bytes are a table of, what is left, and the error, by means of its own.
func decoded(b []byte) (clients, []byte, api.Errno) {
	e := api.OK
	number := func() uint64 {
		n, size := binary.Uvarint(b)
		switch {
		case e != api.OK:
			return 0
		case size < 0 || size > 1 && b[size-1] == 0 || size == 0 && len(b) >= 10:
			e = api.ErrForm
			return 0
		case size == 0:
			e = api.ErrShort
			return 0
		}
		b = b[size:]
		return n
	}
	var l []item
	for n := number(); n > 0 && e == api.OK; n-- {
		x := item{client: number(), seq: number(), code: number()}
		size := number()
		if e == api.OK && size > limit {
			e = api.ErrForm
		}
		if e == api.OK && size > uint64(len(b)) {
			e = api.ErrShort
		}
		if e == api.OK {
			x.text, b = string(b[:size]), b[size:]
			l = append(l, x)
		}
	}
	if e != api.OK {
		return nil, nil, e
	}
	all := clients{}
	for i, x := range l {
		if x.client == 0 || x.client>>32 > 0 || x.seq>>32 > 0 || x.code > 3 || i > 0 && x.client <= l[i-1].client {
			return nil, b, api.ErrForm
		}
		all[uint32(x.client)] = kept{uint32(x.seq), coded(uint8(x.code), x.text)}
	}
	return all, b, api.OK
}

// takesAsDecoded holds Take against the decoder, and returns the error.
func takesAsDecoded(t testing.TB, b []byte) api.Errno {
	t.Helper()
	given := slices.Clone(b)
	r := varint.NewReader(b, limit)
	s, e := Take(r)
	want, left, wantE := decoded(b)
	if e != wantE || (s == nil) != (e != api.OK) || !bytes.Equal(b, given) {
		t.Fatalf("Take of %x: %+v, %v, want %v", b, s, e, wantE)
	}
	if r.Err() == api.OK {
		leaves(t, r, string(left))
	} else if r.Err() != e {
		t.Errorf("Take of %x: %v, and the reader has %v", b, e, r.Err())
	}
	if e == api.OK {
		holds(t, s, want)
		if got := string(s.Put(nil)) + string(left); got != string(b) {
			t.Errorf("other bytes: %x of %x", got, b)
		}
	}
	return e
}

func FuzzTake(f *testing.F) {
	for _, b := range []string{
		"", "\x00", "\x01", items(item{1, 3, 0, "x"}), items(item{1, 3, 0, "x"}, item{9, 0, 1, ""}), items(item{2, 0, 0, ""}, item{1, 0, 0, ""}), items(item{1, 0, 0, ""}, item{1, 0, 0, ""}), items(item{0, 0, 0, ""}), items(item{1 << 32, 0, 0, ""}), items(item{1, 1 << 32, 0, ""}), items(item{1, 1, 4, ""}), items(item{most, most, 3, longText}), "\x01\x81\x00\x00\x00\x00", items(item{1, 3, 0, "x"}) + "y",
	} {
		f.Add([]byte(b))
	}
	f.Fuzz(func(t *testing.T, b []byte) { takesAsDecoded(t, b) })
}

func TestTakeOfRandomBytes(t *testing.T) {
	source := rand.New(rand.NewSource(3))
	some := func(most int) uint64 {
		if source.Intn(20) == 0 {
			return source.Uint64() >> source.Intn(64)
		}
		return uint64(source.Intn(most))
	}
	count := map[api.Errno]int{}
	for range 30000 {
		var l []item
		client := uint64(0)
		for range source.Intn(5) {
			client += some(3)
			if source.Intn(10) > 0 {
				client++
			}
			l = append(l, item{client, some(300), some(4), strings.Repeat("v", source.Intn(4))})
		}
		b := []byte(items(l...))
		for range source.Intn(3) {
			switch at := source.Intn(len(b) + 1); {
			case at == len(b):
				b = append(b, byte(source.Intn(256)))
			case source.Intn(2) == 0:
				b[at] ^= 1 << source.Intn(8)
			default:
				b = slices.Delete(b, at, at+1)
			}
		}
		count[takesAsDecoded(t, b)]++
		if t.Failed() {
			return
		}
	}
	if count[api.OK] < 3000 || count[api.ErrShort] < 3000 || count[api.ErrForm] < 3000 {
		t.Errorf("too few of a sort: %v", count)
	}
}

// P10.2: Same

func TestSame(t *testing.T) {
	first := clients{1: {3, text("x")}, 2: {0, coded(api.None, "")}}
	a := tableOf(first)
	differ := func(by func(other clients)) {
		t.Helper()
		other := maps.Clone(first)
		by(other)
		b := tableOf(other)
		if Same(a, b) || Same(b, a) {
			t.Errorf("%v is taken for %v", other, first)
		}
		if !Same(b, b) || !Same(b, b.Copy()) || !Same(b.Copy(), b) {
			t.Errorf("%v is not equal to itself", other)
		}
	}
	differ(func(o clients) { delete(o, 1) })
	differ(func(o clients) { delete(o, 2) })
	differ(func(o clients) { clear(o) })
	differ(func(o clients) { o[3] = kept{} })
	differ(func(o clients) { o[3] = o[2]; delete(o, 2) })
	differ(func(o clients) { o[1], o[2] = o[2], o[1] })
	differ(func(o clients) { o[1] = kept{4, text("x")} })
	differ(func(o clients) { o[2] = kept{1, coded(api.None, "")} })
	differ(func(o clients) { o[1] = kept{3, coded(api.None, "x")} })
	differ(func(o clients) { o[2] = kept{0, coded(api.Done, "")} })
	differ(func(o clients) { o[1] = kept{3, text("y")} })
	differ(func(o clients) { o[1] = kept{3, text("")} })
	differ(func(o clients) { o[2] = kept{0, coded(api.None, "\x00")} })
	// A reply that is zero, for the number 0, is not none.
	differ(func(o clients) { o[2] = kept{} })
	if zero := tableOf(clients{1: {}}); Same(zero, New()) || Same(New(), zero) || Same(zero, tableOf(clients{2: {}})) {
		t.Error("a client with a zero reply is taken for none")
	}
}

func TestSameHoweverMade(t *testing.T) {
	want := clients{1: {3, text("x")}, 2: {0, coded(api.None, "")}}
	one, two := New(), New()
	one.Keep(1, 3, text("x"))
	one.Keep(2, 0, coded(api.None, ""))
	for _, seq := range []uint32{1, 0, 2} {
		two.Keep(1, seq, text("earlier"))
	}
	two.Keep(2, 0, coded(api.None, ""))
	two.Keep(2, 0, text("y"))
	two.Keep(0, 9, text("z"))
	two.Keep(1, 3, text("x"))
	two.Keep(1, 2, text("later"))
	three, e := Take(varint.NewReader([]byte(encoded(want)), limit))
	if e != api.OK {
		t.Fatal(e)
	}
	all := []*Table{one, two, three, one.Copy(), three.Copy().Copy()}
	for _, a := range all {
		holds(t, a, want)
		for _, b := range all {
			if !Same(a, b) {
				t.Errorf("%q is not %q", a.Put(nil), b.Put(nil))
			}
		}
	}
}

func TestSameOfNil(t *testing.T) {
	taken, e := Take(varint.NewReader([]byte{0}, limit))
	if e != api.OK {
		t.Fatal(e)
	}
	refused := New()
	refused.Keep(0, 1, text("x"))
	none := []*Table{nil, New(), New().Copy(), (*Table)(nil).Copy(), taken, refused}
	for _, a := range none {
		for _, b := range none {
			if !Same(a, b) {
				t.Errorf("%v is not %v", a, b)
			}
		}
		for _, b := range []*Table{tableOf(clients{1: {1, text("x")}}), tableOf(clients{1: {}})} {
			if Same(a, b) || Same(b, a) {
				t.Errorf("%v is %v", a, b)
			}
		}
	}
}

// P10.3, and all of it beside a model

// model is all that was kept, in the order of arrival.
type model []keeping

type keeping struct {
	client uint32
	kept
}

// last is a client's greatest number, with the reply that came with it first.
func (m model) last(client uint32) (kept, bool) {
	var last kept
	is := false
	for _, k := range m {
		if k.client == client && client > 0 && (!is || k.seq > last.seq) {
			last, is = k.kept, true
		}
	}
	return last, is
}

func (m model) look(client, seq uint32) (api.Reply, uint8) {
	last, is := m.last(client)
	if !is || last.seq < seq {
		return api.Reply{}, Fresh
	}
	if last.seq == seq {
		return last.reply, Again
	}
	return old, Old
}

func (m model) all() clients {
	all := clients{}
	for _, k := range m {
		if last, is := m.last(k.client); is {
			all[k.client] = last
		}
	}
	return all
}

// someKeeping is of few clients, whose numbers grow slowly.
func someKeeping(source *rand.Rand, step int) keeping {
	client := []uint32{0, 1, 2, 3, most}[source.Intn(5)]
	seq := uint32(source.Intn(step/4 + 3))
	if source.Intn(200) == 0 {
		seq = most - uint32(source.Intn(3))
	}
	return keeping{client, kept{seq, coded(uint8(source.Intn(4)), strings.Repeat("x", source.Intn(50)))}}
}

func TestRandomKeepsBesideModel(t *testing.T) {
	source := rand.New(rand.NewSource(1))
	count := map[uint8]int{}
	for range 100 {
		s, m := New(), model{}
		for step := range 80 {
			k := someKeeping(source, step)
			reply, what := m.look(k.client, k.seq)
			count[what]++
			looks(t, s, k.client, k.seq, reply, what)
			s.Keep(k.client, k.seq, k.reply)
			m = append(m, k)
			holds(t, s, m.all())
			if source.Intn(10) == 0 {
				copied := s.Copy()
				s.Keep(1+uint32(source.Intn(4)), most, text("not seen in the copy"))
				s = copied
			}
		}
		takes(t, string(s.Put(nil)), m.all(), "")
		if t.Failed() {
			return
		}
	}
	for what := Fresh; what <= Old; what++ {
		if count[what] < 500 {
			t.Errorf("too few of %d: %d", what, count[what])
		}
	}
}

// greatest is the greatest number that is not fresh, found by Look alone.
func greatest(s *Table, client uint32) int64 {
	from, to := int64(-1), int64(most)
	for from < to {
		middle := (from + to + 1) / 2
		if _, what := s.Look(client, uint32(middle)); what == Fresh {
			to = middle - 1
		} else {
			from = middle
		}
	}
	return from
}

func TestNumbersNeverDecrease(t *testing.T) {
	source := rand.New(rand.NewSource(2))
	for range 20 {
		s := New()
		before := map[uint32]int64{0: -1, 1: -1, 2: -1, 3: -1, most: -1}
		for step := range 200 {
			k := someKeeping(source, step)
			s.Keep(k.client, k.seq, k.reply)
			for client, least := range before {
				got := greatest(s, client)
				if got < least || client != k.client && got != least {
					t.Fatalf("after a reply for %d of %d: %d of %d was %d", k.seq, k.client, got, client, least)
				}
				before[client] = got
			}
			if k.client > 0 && before[k.client] < int64(k.seq) {
				t.Fatalf("%d of %d is still fresh", k.seq, k.client)
			}
		}
	}
}

func TestWhatWasKeptLastIsReturnedWhoeverKeptOthers(t *testing.T) {
	s := New()
	s.Keep(5, 7, coded(api.None, "x"))
	for client := range uint32(500) {
		if client == 5 {
			continue
		}
		for _, seq := range []uint32{0, 7, 8, most} {
			s.Keep(client, seq, text("other"))
			looks(t, s, 5, 7, coded(api.None, "x"), Again)
			looks(t, s, 5, 6, old, Old)
			looks(t, s, 5, 8, api.Reply{}, Fresh)
		}
	}
	for range 3 {
		looks(t, s, 5, 7, coded(api.None, "x"), Again)
	}
	s.Keep(5, 6, text("y"))
	looks(t, s, 5, 7, coded(api.None, "x"), Again)
	s.Keep(5, 8, text("z"))
	looks(t, s, 5, 8, text("z"), Again)
	looks(t, s, 5, 7, old, Old)
}

// R2: nothing remains but in the table

func TestSameCallsSameResults(t *testing.T) {
	run := func() (string, []api.Reply) {
		source := rand.New(rand.NewSource(5))
		s := New()
		var replies []api.Reply
		for step := range 300 {
			k := someKeeping(source, step)
			reply, _ := s.Look(k.client, k.seq)
			replies = append(replies, reply)
			s.Keep(k.client, k.seq, k.reply)
		}
		for client := range uint32(40) {
			s.Keep(client*client, client, text("x"))
		}
		return string(s.Put(nil)), replies
	}
	b, replies := run()
	for range 20 {
		if c, again := run(); c != b || !slices.Equal(again, replies) {
			t.Fatal("another run has other results")
		}
	}
}
