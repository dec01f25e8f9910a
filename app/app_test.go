package app

import (
	"bytes"
	"encoding/binary"
	"maps"
	"math"
	"math/rand"
	"reflect"
	"slices"
	"strings"
	"testing"

	"quorate/api"
	"quorate/kv"
	"quorate/session"
	"quorate/varint"
)

const most = math.MaxUint32

// kept is a client's number, and the reply that is kept for it.
type kept struct {
	seq   uint32
	reply api.Reply
}

type (
	values  = map[string]string
	clients = map[uint32]kept
)

// want is what an application is to have.
type want struct {
	count uint64
	state values
	table clients
}

// did is the reply to a command that was done.
func did(text string) api.Reply { return api.Reply{Text: text} }

var (
	none = api.Reply{Code: api.None}
	bad  = api.Reply{Code: api.Bad}
	old  = api.Reply{Code: api.Old}
)

// of is a command of a client with a number.
func of(client, seq uint32, c api.Cmd) api.Cmd {
	c.Client, c.Seq = client, seq
	return c
}

func put(key, value string) api.Cmd {
	return api.Cmd{Kind: api.Put, Keys: []string{key}, New: value}
}

func get(key string) api.Cmd { return api.Cmd{Kind: api.Get, Keys: []string{key}} }

func del(key string) api.Cmd { return api.Cmd{Kind: api.Del, Keys: []string{key}} }

func add(key string, n int64) api.Cmd {
	return api.Cmd{Kind: api.Add, Keys: []string{key}, N: n}
}

func cas(key, before, value string) api.Cmd {
	return api.Cmd{Kind: api.Cas, Keys: []string{key}, Old: before, New: value}
}

func swap(a, b string) api.Cmd { return api.Cmd{Kind: api.Swap, Keys: []string{a, b}} }

func join(keys ...string) api.Cmd { return api.Cmd{Kind: api.Join, Keys: keys} }

func clearing(keys ...string) api.Cmd { return api.Cmd{Kind: api.Clear, Keys: keys} }

// eachKind is a command of each kind, on one key or two.
func eachKind(a, b string) []api.Cmd {
	return []api.Cmd{put(a, "9"), get(a), del(a), add(a, 1), cas(a, "1", "8"), swap(a, b), join(a, b), clearing(a, b)}
}

// text is a text as bytes have it, by means of its own.
func text(s string) string {
	return string(binary.AppendUvarint(nil, uint64(len(s)))) + s
}

// number is a number as bytes have it, by means of its own.
func number(n uint64) string { return string(binary.AppendUvarint(nil, n)) }

// stateBytes are the bytes of keys with values.
func stateBytes(state values) string {
	b := number(uint64(len(state)))
	for _, key := range slices.Sorted(maps.Keys(state)) {
		b += text(key) + text(state[key])
	}
	return b
}

// tableBytes are the bytes of clients with what was kept.
func tableBytes(table clients) string {
	b := number(uint64(len(table)))
	for _, client := range slices.Sorted(maps.Keys(table)) {
		k := table[client]
		b += number(uint64(client)) + number(uint64(k.seq)) + number(uint64(k.reply.Code)) + text(k.reply.Text)
	}
	return b
}

// encoded are the bytes of an application.
func encoded(w want) string {
	return number(w.count) + stateBytes(w.state) + tableBytes(w.table)
}

// stateHolds tells whether a state has these keys and values, and no others.
func stateHolds(t testing.TB, s *kv.State, state values) {
	t.Helper()
	if s == nil || s.Len() != len(state) {
		t.Errorf("the state has %d keys, want %d", s.Len(), len(state))
	}
	for key, value := range state {
		if got, is := s.Get(key); got != value || !is {
			t.Errorf("the state has %q, %v for %q, want %q", got, is, key, value)
		}
	}
	if got := string(s.Put(nil)); got != stateBytes(state) {
		t.Errorf("the state %q, want %q", got, stateBytes(state))
	}
}

// tableHolds tells whether a table has these clients, and no others.
func tableHolds(t testing.TB, s *session.Table, table clients) {
	t.Helper()
	if s == nil || s.Len() != len(table) {
		t.Errorf("the table has %d clients, want %d", s.Len(), len(table))
	}
	for client, k := range table {
		if got, what := s.Look(client, k.seq); got != k.reply || what != session.Again {
			t.Errorf("the table has %+v, %d for %d of %d, want %+v", got, what, k.seq, client, k.reply)
		}
	}
	if got := string(s.Put(nil)); got != tableBytes(table) {
		t.Errorf("the table %q, want %q", got, tableBytes(table))
	}
}

// holds tells whether an application has this.
func holds(t testing.TB, a *App, w want) {
	t.Helper()
	if a == nil {
		t.Error("no application")
		return
	}
	if got := a.Count(); got != w.count {
		t.Errorf("the count %d, want %d", got, w.count)
	}
	stateHolds(t, a.State(), w.state)
	tableHolds(t, a.Table(), w.table)
	if got := string(a.Bytes()); got != encoded(w) {
		t.Errorf("bytes %.200q, want %.200q", got, encoded(w))
	}
}

// does tells whether a command returns this, and what the application has then.
func does(t testing.TB, a *App, c api.Cmd, reply api.Reply, fresh bool, then want) {
	t.Helper()
	if got, is := a.Do(c); got != reply || is != fresh {
		t.Errorf("%+v: %+v, %v, want %+v, %v", c, got, is, reply, fresh)
	}
	holds(t, a, then)
}

// appOf is an application of bytes, by Of.
func appOf(t testing.TB, b string) *App {
	t.Helper()
	a, e := Of([]byte(b))
	if a == nil || e != api.OK {
		t.Fatalf("Of %.80q: %v, %v", b, a, e)
	}
	return a
}

// sample is an application with keys, clients and a count that is none of their numbers.
func sample() (*App, want) {
	a := New()
	for _, c := range []api.Cmd{
		of(1, 1, put("a", "1")), of(1, 2, put("b", "")), of(2, 0, get("z")), of(most, most, add("a", 4)), of(9, 3, cas("a", "1", "2")), of(9, 4, put("gone", "x")), of(9, 5, del("gone")),
	} {
		a.Do(c)
	}
	return a, want{7, values{"a": "5", "b": ""}, clients{1: {2, did("")}, 2: {0, none}, most: {most, did("5")}, 9: {5, did("x")}}}
}

// P11.1: New

func TestNew(t *testing.T) {
	a := New()
	holds(t, a, want{})
	if a.State().Len() != 0 || a.Table().Len() != 0 || a.Count() != 0 {
		t.Errorf("%d keys, %d clients, the count %d", a.State().Len(), a.Table().Len(), a.Count())
	}
	other := New()
	other.Do(of(1, 1, put("a", "1")))
	holds(t, a, want{})
	holds(t, New(), want{})
	holds(t, other, want{1, values{"a": "1"}, clients{1: {1, did("")}}})
}

// P11.1: Do

func TestExample(t *testing.T) {
	a := New()
	does(t, a, of(1, 1, add("a", 1)), did("1"), true, want{1, values{"a": "1"}, clients{1: {1, did("1")}}})
	does(t, a, of(1, 1, add("a", 1)), did("1"), false, want{1, values{"a": "1"}, clients{1: {1, did("1")}}})
	last := want{2, values{"a": "2"}, clients{1: {2, did("2")}}}
	does(t, a, of(1, 2, add("a", 1)), did("2"), true, last)
	does(t, a, of(1, 1, get("a")), old, false, last)
}

func TestDoOfFreshOnes(t *testing.T) {
	a := New()
	does(t, a, of(5, 1, put("a", "x")), did(""), true, want{1, values{"a": "x"}, clients{5: {1, did("")}}})
	does(t, a, of(5, 2, get("a")), did("x"), true, want{2, values{"a": "x"}, clients{5: {2, did("x")}}})
	does(t, a, of(6, 2, get("b")), none, true, want{3, values{"a": "x"}, clients{5: {2, did("x")}, 6: {2, none}}})
	does(t, a, of(5, 100, del("a")), did("x"), true, want{4, nil, clients{5: {100, did("x")}, 6: {2, none}}})
	does(t, a, of(7, 1, put("c", "y")), did(""), true, want{5, values{"c": "y"}, clients{5: {100, did("x")}, 6: {2, none}, 7: {1, did("")}}})
}

func TestDoOfRepeatedOnes(t *testing.T) {
	a := New()
	then := want{1, values{"a": "7"}, clients{3: {4, did("7")}}}
	does(t, a, of(3, 4, add("a", 7)), did("7"), true, then)
	// What else the command says does not matter: its client and its number are what tells it.
	for range 3 {
		does(t, a, of(3, 4, add("a", 7)), did("7"), false, then)
		does(t, a, of(3, 4, put("a", "x")), did("7"), false, then)
		does(t, a, of(3, 4, clearing("a", "b")), did("7"), false, then)
		does(t, a, api.Cmd{Client: 3, Seq: 4}, did("7"), false, then)
		does(t, a, of(3, 4, api.Cmd{Kind: 255, Keys: []string{""}, Old: "o", N: 1}), did("7"), false, then)
	}
}

func TestDoOfOldOnes(t *testing.T) {
	a := New()
	a.Do(of(3, 4, add("a", 7)))
	a.Do(of(3, 9, add("a", 1)))
	then := want{2, values{"a": "8"}, clients{3: {9, did("8")}}}
	for _, seq := range []uint32{0, 1, 3, 4, 5, 8} {
		does(t, a, of(3, seq, add("a", 7)), old, false, then)
		does(t, a, of(3, seq, put("b", "x")), old, false, then)
		does(t, a, api.Cmd{Client: 3, Seq: seq}, old, false, then)
	}
	does(t, a, of(3, 9, add("a", 1)), did("8"), false, then)
	does(t, a, of(4, 0, add("a", 1)), did("9"), true, want{3, values{"a": "9"}, clients{3: {9, did("8")}, 4: {0, did("9")}}})
}

func TestDoOfTheClient0(t *testing.T) {
	a, then := sample()
	b := New()
	for _, seq := range []uint32{0, 1, 2, most} {
		l := append(eachKind("a", "b"), api.Cmd{}, api.Cmd{Kind: 9}, api.Cmd{Kind: 255, Keys: []string{"a"}})
		for _, c := range l {
			for range 2 {
				does(t, a, of(0, seq, c), bad, false, then)
				does(t, b, of(0, seq, c), bad, false, want{})
			}
		}
	}
}

func TestBadReplyIsKeptAndCounted(t *testing.T) {
	a := New()
	a.Do(of(1, 1, put("a", "x")))
	then := want{1, values{"a": "x"}, clients{1: {1, did("")}}}
	for i, c := range []api.Cmd{
		add("a", 1), cas("a", "y", "z"), {}, {Kind: 9, Keys: []string{"a"}}, {Kind: 255}, swap("a", ""), {Kind: api.Swap, Keys: []string{"a"}}, {Kind: api.Get, Keys: []string{"a"}, New: "n"}, {Kind: api.Put, New: "n"}, put("a", strings.Repeat("v", api.MaxValue+1)), put(strings.Repeat("k", api.MaxKey+1), ""),
	} {
		client := uint32(i/3 + 2)
		seq := uint32(i%3 + 5)
		then.count++
		then.table[client] = kept{seq, bad}
		does(t, a, of(client, seq, c), bad, true, then)
		does(t, a, of(client, seq, c), bad, false, then)
		does(t, a, of(client, seq, put("a", "y")), bad, false, then)
		does(t, a, of(client, seq-1, c), old, false, then)
	}
}

func TestReplyOfEachCodeIsReturnedAgain(t *testing.T) {
	for _, x := range []struct {
		c     api.Cmd
		reply api.Reply
	}{
		{put("n", "1"), did("")}, {get("a"), did("x")}, {get("z"), none}, {del("a"), did("x")}, {del("z"), none}, {add("z", -3), did("-3")}, {add("a", 1), bad}, {cas("a", "x", "y"), did("")}, {cas("z", "", ""), none}, {cas("a", "y", "z"), bad}, {swap("a", "z"), did("")}, {join("a", "z"), did("x,,")}, {clearing("a", "z"), did("1")}, {api.Cmd{Kind: 9}, bad},
	} {
		a := New()
		a.Do(of(1, 1, put("a", "x")))
		if reply, fresh := a.Do(of(2, 3, x.c)); reply != x.reply || !fresh {
			t.Errorf("%+v: %+v, %v, want %+v", x.c, reply, fresh, x.reply)
		}
		// Whatever became of the keys since.
		for i, c := range []api.Cmd{put("a", "other"), put("z", "other"), clearing("a", "z", "n")} {
			a.Do(of(1, uint32(i+2), c))
			before := string(a.Bytes())
			if reply, fresh := a.Do(of(2, 3, x.c)); reply != x.reply || fresh || string(a.Bytes()) != before {
				t.Errorf("again %+v: %+v, %v, want %+v", x.c, reply, fresh, x.reply)
			}
		}
	}
}

func TestRepeatedOneAfterOthersChangedItsKeys(t *testing.T) {
	a := New()
	a.Do(of(1, 1, put("a", "1")))
	a.Do(of(2, 1, get("a")))
	a.Do(of(3, 1, add("a", 10)))
	a.Do(of(4, 1, del("a")))
	then := want{4, nil, clients{1: {1, did("")}, 2: {1, did("1")}, 3: {1, did("11")}, 4: {1, did("11")}}}
	holds(t, a, then)
	for range 3 {
		does(t, a, of(1, 1, put("a", "1")), did(""), false, then)
		does(t, a, of(2, 1, get("a")), did("1"), false, then)
		does(t, a, of(3, 1, add("a", 10)), did("11"), false, then)
		does(t, a, of(4, 1, del("a")), did("11"), false, then)
	}
	does(t, a, of(2, 2, get("a")), none, true, want{5, nil, clients{1: {1, did("")}, 2: {2, none}, 3: {1, did("11")}, 4: {1, did("11")}}})
}

func TestNumbersAtTheEnds(t *testing.T) {
	a := New()
	does(t, a, of(1, 0, add("a", 1)), did("1"), true, want{1, values{"a": "1"}, clients{1: {0, did("1")}}})
	does(t, a, of(1, 0, add("a", 1)), did("1"), false, want{1, values{"a": "1"}, clients{1: {0, did("1")}}})
	then := want{2, values{"a": "2"}, clients{1: {most, did("2")}}}
	does(t, a, of(1, most, add("a", 1)), did("2"), true, then)
	does(t, a, of(1, most, add("a", 1)), did("2"), false, then)
	for _, seq := range []uint32{0, 1, 1 << 31, most - 1} {
		does(t, a, of(1, seq, add("a", 1)), old, false, then)
	}
	then.count, then.state["a"], then.table[most] = 3, "3", kept{most - 1, did("3")}
	does(t, a, of(most, most-1, add("a", 1)), did("3"), true, then)
	then.count, then.state["a"], then.table[most] = 4, "4", kept{most, did("4")}
	does(t, a, of(most, most, add("a", 1)), did("4"), true, then)
	does(t, a, of(most, most-1, add("a", 1)), old, false, then)
	does(t, a, of(most, 0, add("a", 1)), old, false, then)
}

func TestDoOfEachKind(t *testing.T) {
	for _, first := range []values{{}, {"a": "1"}, {"a": "x", "b": ""}, {"b": "2"}} {
		for kind := range 256 {
			for _, c := range []api.Cmd{{Keys: []string{"a"}}, {Keys: []string{"a", "b"}}, {Keys: []string{"a"}, New: "8"}, {Keys: []string{"a"}, Old: "1", New: "8"}, {Keys: []string{"a"}, N: 3}, {}} {
				c.Kind = uint8(kind)
				w := want{table: clients{}, state: first}
				alone := kv.New()
				for key, value := range first {
					alone.Do(of(1, 0, put(key, value)))
				}
				a := appOf(t, encoded(w))
				reply := alone.Do(of(7, 3, c))
				if kind > int(api.Clear) && reply != bad {
					t.Fatalf("the kind %d: %+v", kind, reply)
				}
				got, fresh := a.Do(of(7, 3, c))
				if got != reply || !fresh || a.Count() != 1 || !kv.Same(a.State(), alone) {
					t.Errorf("%+v on %v: %+v, %v, want %+v; %q, want %q", c, first, got, fresh, reply, a.State().Put(nil), alone.Put(nil))
				}
				tableHolds(t, a.Table(), clients{7: {3, reply}})
			}
		}
	}
}

// P11.1: Count, State, Table

func TestCount(t *testing.T) {
	a := New()
	for i := range uint64(300) {
		if got := a.Count(); got != i {
			t.Fatalf("the count %d after %d", got, i)
		}
		c := of(uint32(i%3)+1, uint32(i), get("a"))
		a.Do(c)
		a.Do(c)
		a.Do(of(0, uint32(i), get("a")))
	}
}

func TestStateThatWasReturned(t *testing.T) {
	a, w := sample()
	s, other := a.State(), a.State()
	stateHolds(t, s, w.state)
	s.Do(of(1, 1, put("a", "changed")))
	s.Do(of(1, 1, put("new", "1")))
	s.Do(of(1, 1, del("b")))
	stateHolds(t, s, values{"a": "changed", "new": "1"})
	stateHolds(t, other, w.state)
	holds(t, a, w)
	a.Do(of(20, 1, put("a", "by the application")))
	a.Do(of(20, 2, del("b")))
	stateHolds(t, s, values{"a": "changed", "new": "1"})
	stateHolds(t, other, w.state)
	stateHolds(t, a.State(), values{"a": "by the application"})
}

func TestTableThatWasReturned(t *testing.T) {
	a, w := sample()
	s, other := a.Table(), a.Table()
	tableHolds(t, s, w.table)
	s.Keep(1, 50, did("changed"))
	s.Keep(20, 1, did("new"))
	tableHolds(t, other, w.table)
	holds(t, a, w)
	does(t, a, of(1, 2, get("a")), did(""), false, w)
	kept20, what := s.Look(20, 1)
	a.Do(of(20, 1, get("a")))
	a.Do(of(1, 60, get("a")))
	if got, now := s.Look(20, 1); got != kept20 || got != did("new") || now != what || now != session.Again {
		t.Errorf("the table that was returned shows %+v, %d", got, now)
	}
	if got, now := s.Look(1, 50); got != did("changed") || now != session.Again {
		t.Errorf("the table that was returned shows %+v, %d", got, now)
	}
	tableHolds(t, other, w.table)
}

func TestStateAndTableOfEmptyOne(t *testing.T) {
	a := New()
	s, table := a.State(), a.Table()
	s.Do(of(1, 1, put("a", "1")))
	table.Keep(1, 1, did("x"))
	holds(t, a, want{})
	a.Do(of(2, 1, put("b", "2")))
	stateHolds(t, s, values{"a": "1"})
	tableHolds(t, table, clients{1: {1, did("x")}})
	holds(t, a, want{1, values{"b": "2"}, clients{2: {1, did("")}}})
}

// P11.1: Copy

func TestCopy(t *testing.T) {
	a, w := sample()
	c := a.Copy()
	if c == a || !Same(a, c) {
		t.Error("the copy is the application, or is not equal")
	}
	holds(t, c, w)
	a.Do(of(20, 1, put("a", "by the one")))
	a.Do(of(20, 2, put("n", "1")))
	holds(t, c, w)
	d := c.Copy()
	c.Do(of(1, 7, clearing("a", "b")))
	holds(t, d, w)
	holds(t, c, want{8, nil, clients{1: {7, did("2")}, 2: {0, none}, most: {most, did("5")}, 9: {5, did("x")}}})
	holds(t, a, want{9, values{"a": "by the one", "b": "", "n": "1"}, clients{1: {2, did("")}, 2: {0, none}, most: {most, did("5")}, 9: {5, did("x")}, 20: {2, did("")}}})
	holds(t, d.Copy().Copy(), w)
}

func TestCopyOfEmptyOne(t *testing.T) {
	a := New()
	b, c := a.Copy(), a.Copy()
	b.Do(of(1, 1, put("a", "1")))
	holds(t, a, want{})
	holds(t, c, want{})
	a.Do(of(2, 1, put("b", "2")))
	holds(t, a, want{1, values{"b": "2"}, clients{2: {1, did("")}}})
	holds(t, b, want{1, values{"a": "1"}, clients{1: {1, did("")}}})
	holds(t, c, want{})
}

// R1: no object

func TestNil(t *testing.T) {
	var a *App
	for _, client := range []uint32{0, 1, most} {
		for _, c := range append(eachKind("a", "b"), api.Cmd{}, api.Cmd{Kind: 9}) {
			if reply, fresh := a.Do(of(client, 1, c)); reply != bad || fresh {
				t.Errorf("Do: %+v, %v", reply, fresh)
			}
		}
	}
	if a.Count() != 0 || a.State() != nil || a.Table() != nil || a.Copy() != nil {
		t.Errorf("%d, %v, %v, %v", a.Count(), a.State(), a.Table(), a.Copy())
	}
	if b := a.Bytes(); string(b) != "\x00\x00\x00" {
		t.Errorf("Bytes: %x", b)
	}
	if !Same(a, nil) || !Same(a.Copy(), a) || !Same(a, New()) {
		t.Error("nil is not equal to itself, or to New's")
	}
}

func TestCallsOfZeroOneDoNotPanic(t *testing.T) {
	a := &App{}
	holdsAsNew := func(x *App) {
		if string(x.Bytes()) != "\x00\x00\x00" || !Same(x, New()) || x.Count() != 0 {
			t.Errorf("%q, the count %d", x.Bytes(), x.Count())
		}
	}
	holdsAsNew(a)
	holdsAsNew(a.Copy())
	a.State()
	a.Table()
	a.Do(of(1, 1, put("a", "1")))
}

// P11.2: Bytes

func TestBytes(t *testing.T) {
	for _, x := range []struct {
		w want
		b string
	}{
		{want{}, "\x00\x00\x00"},
		{want{1, values{"a": "1"}, clients{1: {1, did("1")}}}, "\x01" + "\x01\x01a\x011" + "\x01\x01\x01\x00\x011"},
		{want{4, values{"a": "3"}, clients{1: {9, did("3")}, 2: {0, bad}}}, "\x04\x01\x01a\x013\x02\x01\x09\x00\x013\x02\x00\x02\x00"},
		{want{127, values{"b": "", "a": ""}, nil}, "\x7f\x02\x01a\x00\x01b\x00\x00"},
		{want{128, nil, clients{128: {300, none}, 5: {most, old}}}, "\x80\x01\x00\x02\x05\xff\xff\xff\xff\x0f\x03\x00\x80\x01\xac\x02\x01\x00"},
		{want{math.MaxUint64, nil, nil}, "\xff\xff\xff\xff\xff\xff\xff\xff\xff\x01\x00\x00"},
	} {
		if got := encoded(x.w); got != x.b {
			t.Fatalf("the tests' own bytes: %q, want %q", got, x.b)
		}
		holds(t, appOf(t, x.b), x.w)
	}
	if b := New().Bytes(); string(b) != "\x00\x00\x00" {
		t.Errorf("New's: %q", b)
	}
}

func TestBytesOfWhatWasDone(t *testing.T) {
	a := New()
	a.Do(of(1, 1, add("a", 1)))
	a.Do(of(2, 0, api.Cmd{Kind: 77}))
	a.Do(of(1, 9, add("a", 2)))
	if b := a.Bytes(); string(b) != "\x03\x01\x01a\x013\x02\x01\x09\x00\x013\x02\x00\x02\x00" {
		t.Errorf("%q", b)
	}
}

// madeDifferently are applications with the same contents, and a count of 3.
func madeDifferently(t testing.TB) ([]*App, want) {
	w := want{3, values{"a": "3", "b": "x"}, clients{1: {2, did("")}, 2: {1, did("3")}}}
	one, two, three := New(), New(), New()
	for _, c := range []api.Cmd{of(1, 1, put("a", "1")), of(2, 1, add("a", 2)), of(1, 2, put("b", "x"))} {
		one.Do(c)
	}
	for _, c := range []api.Cmd{of(1, 1, put("b", "x")), of(2, 1, add("a", 3)), of(1, 0, put("b", "y")), of(2, 1, add("a", 3)), of(0, 1, put("c", "z")), of(1, 2, cas("b", "x", "x")), of(1, 2, del("a"))} {
		two.Do(c)
	}
	for _, c := range []api.Cmd{of(2, 0, put("b", "x")), of(2, 1, add("a", 3)), of(1, 2, swap("z", "y"))} {
		three.Do(c)
	}
	return []*App{one, two, three, one.Copy(), appOf(t, encoded(w)), appOf(t, string(two.Bytes())).Copy()}, w
}

func TestBytesAreTheSameHoweverItCameToBe(t *testing.T) {
	l, w := madeDifferently(t)
	for _, a := range l {
		holds(t, a, w)
	}
	source := rand.New(rand.NewSource(1))
	clientsOf := []uint32{1, 2, 9, 10, 127, 128, 255, 256, 1 << 16, 1 << 31, most}
	var first string
	for i := range 50 {
		source.Shuffle(len(clientsOf), func(i, j int) { clientsOf[i], clientsOf[j] = clientsOf[j], clientsOf[i] })
		a := New()
		for _, client := range clientsOf {
			a.Do(of(client, client%7, put(string(rune('a'+client%26))+number(uint64(client)), "v")))
		}
		if i == 0 {
			first = string(a.Bytes())
		}
		if got := string(a.Bytes()); got != first {
			t.Fatalf("%q, before %q", got, first)
		}
	}
}

func TestBytesAreOfTheirOwn(t *testing.T) {
	a, w := sample()
	for _, x := range []*App{a, New(), nil} {
		b, other := x.Bytes(), x.Bytes()
		before := string(b)
		for i := range b[:cap(b)] {
			b[:cap(b)][i] = 'x'
		}
		if string(other) != before || string(x.Bytes()) != before {
			t.Errorf("%q became %q, %q", before, other, x.Bytes())
		}
	}
	holds(t, a, w)
	b := a.Bytes()
	a.Do(of(20, 1, clearing("a", "b")))
	if string(b) != encoded(w) {
		t.Errorf("the bytes became %q", b)
	}
}

// P11.2: Of

// refuses tells whether Of returns no application, and this error.
func refuses(t testing.TB, b string, e api.Errno) {
	t.Helper()
	if a, got := Of([]byte(b)); a != nil || got != e {
		t.Errorf("Of %.80q: %v, %v, want %v", b, a, got, e)
	}
}

// many is an application of many keys and clients.
func many() want {
	w := want{1 << 40, values{}, clients{}}
	for i := range 300 {
		w.state["k"+number(uint64(i))] = strings.Repeat("v", i%65)
		w.table[uint32(i+1)*1000003] = kept{uint32(i) << 20, api.Reply{Code: uint8(i % 4), Text: strings.Repeat("r", i%130)}}
	}
	return w
}

// all are applications of all sorts.
func all() []want {
	_, w := sample()
	return []want{
		{}, w, {count: 1}, {count: 127}, {count: 128}, {count: math.MaxUint64}, {state: values{"a": ""}}, {table: clients{1: {}}}, {0, values{"a": "1"}, clients{1: {1, old}}}, {1 << 63, values{strings.Repeat("k", api.MaxKey): strings.Repeat("v", api.MaxValue)}, clients{most: {most, none}}}, many(),
	}
}

func TestOf(t *testing.T) {
	for _, w := range all() {
		a := appOf(t, encoded(w))
		holds(t, a, w)
		again := appOf(t, string(a.Bytes()))
		holds(t, again, w)
		if !Same(a, again) || !Same(again, a) {
			t.Errorf("not the same: %.80q", encoded(w))
		}
	}
}

func TestOfBytesOfWhatWasDone(t *testing.T) {
	a, w := sample()
	b := appOf(t, string(a.Bytes()))
	if !Same(a, b) {
		t.Errorf("%q, want %q", b.Bytes(), a.Bytes())
	}
	holds(t, b, w)
	// It goes on as the other one does.
	for _, c := range []api.Cmd{of(1, 2, del("a")), of(1, 1, del("a")), of(1, 3, add("a", 1)), of(30, 0, join("a", "b")), of(most, most, get("a")), of(0, 1, get("a"))} {
		x, freshX := a.Do(c)
		y, freshY := b.Do(c)
		if x != y || freshX != freshY || !Same(a, b) {
			t.Errorf("%+v: %+v, %v, and %+v, %v", c, x, freshX, y, freshY)
		}
	}
	if b := appOf(t, string((*App)(nil).Bytes())); !Same(b, New()) || !Same(b, nil) {
		t.Errorf("of nil's bytes: %q", b.Bytes())
	}
	if b := appOf(t, string(New().Bytes())); !Same(b, New()) {
		t.Errorf("of New's bytes: %q", b.Bytes())
	}
}

// The longest reply is longer than any value.
func TestOfWithTheLongestReply(t *testing.T) {
	a := New()
	a.Do(of(1, 1, put("a", strings.Repeat("v", api.MaxValue))))
	reply, _ := a.Do(of(2, 1, join(slices.Repeat([]string{"a"}, api.MaxKeys)...)))
	if len(reply.Text) != api.MaxKeys*(api.MaxValue+1) {
		t.Fatalf("a reply of %d bytes", len(reply.Text))
	}
	b := appOf(t, string(a.Bytes()))
	if got, fresh := b.Do(of(2, 1, get("a"))); got != reply || fresh || !Same(a, b) {
		t.Errorf("a reply of %d bytes, %v", len(got.Text), fresh)
	}
	// A table may have any text: the chapter names no limit.
	for _, n := range []int{api.MaxFrame, api.MaxFrame + 1, 1 << 20} {
		w := want{1, nil, clients{1: {1, did(strings.Repeat("r", n))}}}
		holds(t, appOf(t, encoded(w)), w)
	}
}

func TestOfCounts(t *testing.T) {
	for _, n := range []uint64{0, 1, 127, 128, 1 << 32, 1<<63 - 1, 1 << 63, math.MaxUint64 - 1, math.MaxUint64} {
		a := appOf(t, number(n)+"\x00\x00")
		holds(t, a, want{count: n})
		if n < math.MaxUint64 {
			does(t, a, of(1, 1, get("a")), none, true, want{n + 1, nil, clients{1: {1, none}}})
		} else if reply, fresh := a.Do(of(1, 1, get("a"))); reply != none || !fresh {
			t.Errorf("%+v, %v", reply, fresh)
		}
	}
	for _, n := range []string{"\x80\x00", "\x81\x00", "\x80\x80\x00", "\xff\xff\xff\xff\xff\xff\xff\xff\xff\x02", "\xff\xff\xff\xff\xff\xff\xff\xff\xff\x81", strings.Repeat("\x80", 9) + "\x02", strings.Repeat("\xff", 10)} {
		refuses(t, n+"\x00\x00", api.ErrForm)
		refuses(t, n, api.ErrForm)
		refuses(t, n+"\x01", api.ErrForm)
		refuses(t, n+stateBytes(values{"a": "1"})+tableBytes(clients{1: {}}), api.ErrForm)
	}
}

func TestOfBytesThatEnd(t *testing.T) {
	refuses(t, "", api.ErrShort)
	if a, e := Of(nil); a != nil || e != api.ErrShort {
		t.Errorf("Of nil: %v, %v", a, e)
	}
	if a, e := Of([]byte{}); a != nil || e != api.ErrShort {
		t.Errorf("Of no bytes: %v, %v", a, e)
	}
	for _, w := range all() {
		b := encoded(w)
		for n := range len(b) {
			refuses(t, b[:n], api.ErrShort)
		}
	}
}

func TestOfBytesThatAreLeft(t *testing.T) {
	for _, w := range all() {
		for _, left := range []string{"\x00", "x", "\x80", "\x00\x00\x00", encoded(w)} {
			refuses(t, encoded(w)+left, api.ErrForm)
		}
	}
	refuses(t, "\x00\x00\x00\x00", api.ErrForm)
}

// badStates are bytes that are no state, however they go on, and kv's errors.
func badStates() map[string]api.Errno {
	longKey, longValue := strings.Repeat("k", api.MaxKey+1), strings.Repeat("v", api.MaxValue+1)
	return map[string]api.Errno{
		"\x02" + text("b") + text("") + text("a") + text(""):   api.ErrForm,
		"\x02" + text("a") + text("1") + text("a") + text("1"): api.ErrForm,
		"\x01" + text("") + text("1"):                          api.ErrForm,
		"\x01" + text(longKey) + text("1"):                     api.ErrForm,
		"\x01" + text("a") + text(longValue):                   api.ErrForm,
		"\x80\x00":                                             api.ErrForm,
		"\x01\x81\x00a\x00":                                    api.ErrForm,
		"\x01\x01a\x80\x00":                                    api.ErrForm,
		"\xff\xff\xff\xff\xff\xff\xff\xff\xff\x02":             api.ErrForm,
		"\x01\x01a\xff\x7f":                                    api.ErrShort,
		"\x01\xff\x7f":                                         api.ErrShort,
		number(math.MaxUint64):                                 api.ErrShort,
		number(1000) + text("a") + text(""):                    api.ErrShort,
	}
}

func TestOfBytesWhoseStateIsNone(t *testing.T) {
	for state, e := range badStates() {
		if _, given := kv.Take(varint.NewReader([]byte(state+"\x00"), math.MaxInt)); given != e {
			t.Fatalf("kv says %v of %q, not %v", given, state, e)
		}
		for _, count := range []uint64{0, 1, math.MaxUint64} {
			refuses(t, number(count)+state+"\x00", e)
		}
		// Whatever is wrong behind the state: it comes first.
		refuses(t, "\x01"+state, e)
		if e == api.ErrForm {
			refuses(t, "\x01"+state+"\x01\x00\x00\x00\x00", e)
			refuses(t, "\x01"+state+"\x01\x01", e)
			refuses(t, "\x01"+state+"\x00left", e)
		}
	}
}

// badTables are bytes that are no table, and session's errors.
func badTables() map[string]api.Errno {
	return map[string]api.Errno{
		"\x02\x02\x01\x00\x00\x01\x01\x00\x00":  api.ErrForm,
		"\x02\x01\x01\x00\x00\x01\x01\x00\x00":  api.ErrForm,
		"\x01\x00\x01\x00\x00":                  api.ErrForm,
		"\x01\x01\x01\x04\x00":                  api.ErrForm,
		"\x01" + number(1<<32) + "\x01\x00\x00": api.ErrForm,
		"\x01\x01" + number(1<<32) + "\x00\x00": api.ErrForm,
		"\x01\x01\x01" + number(1<<32) + "\x00": api.ErrForm,
		"\x80\x00":                              api.ErrForm,
		"\x01\x01\x81\x00\x00\x00":              api.ErrForm,
		"\x01\x01\x01\x00\x02x":                 api.ErrShort,
		"\x01\x01\x01\x00":                      api.ErrShort,
		"\x02\x01\x01\x00\x00":                  api.ErrShort,
		number(math.MaxUint64):                  api.ErrShort,
	}
}

func TestOfBytesWhoseTableIsNone(t *testing.T) {
	for table, e := range badTables() {
		if _, given := session.Take(varint.NewReader([]byte(table), math.MaxInt)); given != e {
			t.Fatalf("session says %v of %q, not %v", given, table, e)
		}
		for _, before := range []string{"\x00\x00", "\x80\x01\x00", "\x01" + stateBytes(values{"a": "1", "b": ""})} {
			refuses(t, before+table, e)
			if e == api.ErrForm {
				refuses(t, before+table+"\x00", e)
			}
		}
	}
}

func TestOfNeitherChangesNorKeepsItsBytes(t *testing.T) {
	_, w := sample()
	for _, b := range []string{encoded(w), encoded(w) + "x", encoded(w)[:9], "\x01\x01\x00\x00\x00"} {
		room := append([]byte(b), "spare capacity"...)
		given := room[:len(b)]
		a, e := Of(given)
		if string(room) != b+"spare capacity" {
			t.Errorf("%q became %q", b, room)
		}
		if (a == nil) != (e != api.OK) {
			t.Errorf("%v beside %v", a, e)
		}
		for i := range room {
			room[i] = 'x'
		}
		if e == api.OK {
			holds(t, a, w)
		}
	}
	b := []byte(encoded(w))
	one, _ := Of(b)
	two, _ := Of(b)
	one.Do(of(20, 1, clearing("a", "b")))
	holds(t, two, w)
	if string(b) != encoded(w) {
		t.Errorf("the bytes became %q", b)
	}
}

// decoder reads bytes by means of its own.
type decoder struct {
	rest string
	e    api.Errno
}

func (d *decoder) number() uint64 {
	if d.e != api.OK {
		return 0
	}
	n, size := binary.Uvarint([]byte(d.rest))
	switch {
	case size < 0 || size > 1 && d.rest[size-1] == 0 || size == 0 && len(d.rest) >= 10:
		d.e = api.ErrForm
	case size == 0:
		d.e = api.ErrShort
	default:
		d.rest = d.rest[size:]
		return n
	}
	return 0
}

func (d *decoder) text() string {
	n := d.number()
	switch {
	case n > math.MaxInt:
		d.e = api.ErrForm
	case n > uint64(len(d.rest)):
		d.e = api.ErrShort
	}
	if d.e != api.OK {
		return ""
	}
	s := d.rest[:n]
	d.rest = d.rest[n:]
	return s
}

// require is ErrForm where something is not so, unless there was an error.
func (d *decoder) require(is bool) {
	if d.e == api.OK && !is {
		d.e = api.ErrForm
	}
}

func (d *decoder) state() values {
	all, is, last := values{}, true, ""
	for n := d.number(); n > 0 && d.e == api.OK; n-- {
		key, value := d.text(), d.text()
		is = is && last < key && len(key) <= 32 && len(value) <= 64
		all[key], last = value, key
	}
	d.require(is)
	return all
}

func (d *decoder) table() clients {
	all, is, last := clients{}, true, uint64(0)
	for n := d.number(); n > 0 && d.e == api.OK; n-- {
		client, seq, code, text := d.number(), d.number(), d.number(), d.text()
		is = is && last < client && client <= most && seq <= most && code <= 3
		all[uint32(client)], last = kept{uint32(seq), api.Reply{Code: uint8(code), Text: text}}, client
	}
	d.require(is)
	return all
}

// decoded is what bytes are an application of, and the error.
func decoded(b []byte) (want, api.Errno) {
	d := &decoder{rest: string(b)}
	w := want{d.number(), d.state(), d.table()}
	d.require(d.rest == "")
	return w, d.e
}

// readsAsDecoded holds Of against the decoder, and returns the error.
func readsAsDecoded(t testing.TB, b []byte) api.Errno {
	t.Helper()
	given := slices.Clone(b)
	a, e := Of(b)
	w, wantE := decoded(b)
	if e != wantE || (a == nil) != (e != api.OK) || !bytes.Equal(b, given) {
		t.Fatalf("Of %x: %v, %v, want %v", b, a, e, wantE)
	}
	if e == api.OK {
		holds(t, a, w)
		if got := a.Bytes(); !bytes.Equal(got, b) {
			t.Errorf("other bytes: %x of %x", got, b)
		}
	}
	return e
}

func FuzzOf(f *testing.F) {
	for _, w := range all() {
		f.Add([]byte(encoded(w)))
		f.Add([]byte(encoded(w) + "x"))
	}
	for state := range badStates() {
		f.Add([]byte("\x01" + state + "\x00"))
	}
	for table := range badTables() {
		f.Add([]byte("\x01\x00" + table))
	}
	f.Fuzz(func(t *testing.T, b []byte) { readsAsDecoded(t, b) })
}

func TestOfRandomBytes(t *testing.T) {
	source := rand.New(rand.NewSource(2))
	count := map[api.Errno]int{}
	for range 20000 {
		w := want{uint64(source.Intn(300)), values{}, clients{}}
		for range source.Intn(4) {
			w.state[strings.Repeat("k", 1+source.Intn(4))] = strings.Repeat("v", source.Intn(4))
		}
		for range source.Intn(4) {
			w.table[uint32(1+source.Intn(300))] = kept{uint32(source.Intn(300)), api.Reply{Code: uint8(source.Intn(4)), Text: strings.Repeat("r", source.Intn(4))}}
		}
		b := []byte(encoded(w))
		for range source.Intn(3) {
			switch at := source.Intn(len(b) + 1); {
			case at == len(b):
				b = append(b, byte(source.Intn(256)))
			case source.Intn(2) == 0:
				b[at] ^= 1 << source.Intn(8)
			default:
				b = slices.Delete(b, at, at+1)
			}
		}
		count[readsAsDecoded(t, b)]++
		if t.Failed() {
			return
		}
	}
	if count[api.OK] < 2000 || count[api.ErrShort] < 2000 || count[api.ErrForm] < 2000 {
		t.Errorf("too few of a sort: %v", count)
	}
}

// P11.2: Same

func TestSame(t *testing.T) {
	_, w := sample()
	a := appOf(t, encoded(w))
	differ := func(by func(x *want)) {
		t.Helper()
		other := want{w.count, maps.Clone(w.state), maps.Clone(w.table)}
		by(&other)
		b := appOf(t, encoded(other))
		if Same(a, b) || Same(b, a) {
			t.Errorf("%+v is taken for %+v", other, w)
		}
		if !Same(b, b) || !Same(b, b.Copy()) || !Same(b.Copy(), b) {
			t.Errorf("%+v is not equal to itself", other)
		}
	}
	differ(func(x *want) { x.count++ })
	differ(func(x *want) { x.count-- })
	differ(func(x *want) { x.count = 0 })
	differ(func(x *want) { x.count += 1 << 32 })
	differ(func(x *want) { x.state["a"] = "6" })
	differ(func(x *want) { x.state["c"] = "" })
	differ(func(x *want) { delete(x.state, "b") })
	differ(func(x *want) { clear(x.state) })
	differ(func(x *want) { x.table[1] = kept{3, did("")} })
	differ(func(x *want) { x.table[1] = kept{2, none} })
	differ(func(x *want) { x.table[1] = kept{2, did("x")} })
	differ(func(x *want) { x.table[3] = kept{} })
	differ(func(x *want) { delete(x.table, 2) })
	differ(func(x *want) { clear(x.table) })
	differ(func(x *want) { *x = want{} })
}

func TestSameHoweverMade(t *testing.T) {
	l, _ := madeDifferently(t)
	for _, a := range l {
		for _, b := range l {
			if !Same(a, b) {
				t.Errorf("%q is not %q", a.Bytes(), b.Bytes())
			}
		}
	}
}

func TestSameOfNil(t *testing.T) {
	refused := New()
	refused.Do(of(0, 1, put("a", "1")))
	empty := []*App{nil, New(), New().Copy(), (*App)(nil).Copy(), Fold(nil), appOf(t, "\x00\x00\x00"), refused}
	a, _ := sample()
	others := []*App{a, appOf(t, "\x01\x00\x00"), appOf(t, encoded(want{state: values{"a": ""}})), appOf(t, encoded(want{table: clients{1: {}}}))}
	for _, a := range empty {
		for _, b := range empty {
			if !Same(a, b) {
				t.Errorf("%q is not %q", a.Bytes(), b.Bytes())
			}
		}
		for _, b := range others {
			if Same(a, b) || Same(b, a) {
				t.Errorf("%q is %q", a.Bytes(), b.Bytes())
			}
		}
	}
}

// P11.3: Fold

// oneByOne does commands by Do, on a new application.
func oneByOne(l []api.Cmd) *App {
	a := New()
	for _, c := range l {
		a.Do(c)
	}
	return a
}

func TestFold(t *testing.T) {
	holds(t, Fold(nil), want{})
	holds(t, Fold([]api.Cmd{}), want{})
	holds(t, Fold([]api.Cmd{of(1, 3, add("a", 1))}), want{1, values{"a": "1"}, clients{1: {3, did("1")}}})
	holds(t, Fold([]api.Cmd{of(0, 3, add("a", 1))}), want{})
	holds(t, Fold([]api.Cmd{{}}), want{})
	holds(t, Fold([]api.Cmd{of(2, 0, api.Cmd{Kind: 9})}), want{1, nil, clients{2: {0, bad}}})
	l := []api.Cmd{of(1, 1, add("a", 1)), of(1, 1, add("a", 1)), of(1, 2, add("a", 1)), of(1, 1, get("a"))}
	holds(t, Fold(l), want{2, values{"a": "2"}, clients{1: {2, did("2")}}})
	// The order matters.
	slices.Reverse(l)
	holds(t, Fold(l), want{2, values{"a": "1"}, clients{1: {2, did("1")}}})
	one, two := Fold(l), Fold(l)
	one.Do(of(9, 9, put("x", "y")))
	holds(t, two, want{2, values{"a": "1"}, clients{1: {2, did("1")}}})
}

func TestFoldIsDoOneByOne(t *testing.T) {
	source := rand.New(rand.NewSource(3))
	for n := range 200 {
		var l []api.Cmd
		for step := range n {
			l = append(l, someCmd(source, step))
		}
		a, b := Fold(l), oneByOne(l)
		if !Same(a, b) || !bytes.Equal(a.Bytes(), b.Bytes()) {
			t.Fatalf("%q, one by one %q", a.Bytes(), b.Bytes())
		}
	}
}

// deep is a copy of commands, with their keys.
func deep(l []api.Cmd) []api.Cmd {
	out := slices.Clone(l)
	for i := range out {
		out[i].Keys = slices.Clone(out[i].Keys)
	}
	return out
}

func TestFoldAndDoChangeNeitherTheirListsNorKeepThem(t *testing.T) {
	room := make([]api.Cmd, 0, 40)
	for i, c := range append(eachKind("b", "a"), api.Cmd{Kind: 9, Keys: []string{"z", "y"}}, clearing("b", "b", "a"), join("b", "a", "b")) {
		keys := append(make([]string, 0, 8), c.Keys...)
		copy(keys[len(keys):8], []string{"spare", "keys"})
		c.Keys = keys
		room = append(room, of(uint32(i%4), uint32(i), c))
	}
	spare := room[len(room):cap(room)]
	spare[0] = put("spare", "x")
	given, before := deep(room), deep(spare)
	a := Fold(room)
	b := oneByOne(room)
	after := string(a.Bytes())
	if !reflect.DeepEqual(room, given) || !reflect.DeepEqual(deep(spare), before) {
		t.Errorf("the list became %+v, %+v", room, spare)
	}
	for _, c := range room {
		if wide := c.Keys[:cap(c.Keys)]; !slices.Equal(wide[len(c.Keys):len(c.Keys)+2], []string{"spare", "keys"}) {
			t.Errorf("the keys became %q", wide)
		}
		for i := range c.Keys {
			c.Keys[i] = "written by the caller"
		}
	}
	clear(room)
	if string(a.Bytes()) != after || string(b.Bytes()) != after {
		t.Errorf("%q became %q, %q", after, a.Bytes(), b.Bytes())
	}
}

// P11.4, and all of it beside a model

// someCmd is a command of few clients, whose numbers grow slowly, on few keys; some are not valid.
func someCmd(source *rand.Rand, step int) api.Cmd {
	client := []uint32{0, 1, 2, 3, 4, most}[source.Intn(6)]
	seq := uint32(step/8 + source.Intn(4))
	if source.Intn(300) == 0 {
		seq = most - uint32(source.Intn(3))
	}
	key := func() string { return []string{"a", "b", "c"}[source.Intn(3)] }
	var l []api.Cmd
	if source.Intn(10) == 0 {
		l = []api.Cmd{{}, {Kind: uint8(source.Intn(256)), Keys: []string{key()}}, put(key(), strings.Repeat("v", api.MaxValue+1)), swap(key(), "")}
	} else {
		l = append(eachKind(key(), key()), add(key(), int64(source.Intn(100))), put(key(), "x"), put(key(), "1"))
	}
	return of(client, seq, l[source.Intn(len(l))])
}

// returned is what a command returned.
type returned struct {
	reply api.Reply
	fresh bool
}

// modelled is what the last of some commands returns, told by those before it alone, and what they returned.
func modelled(s *kv.State, l []api.Cmd, before []returned) returned {
	c := l[len(l)-1]
	if c.Client == 0 {
		return returned{bad, false}
	}
	again := -1
	for i, x := range l[:len(l)-1] {
		switch {
		case x.Client != c.Client:
		case x.Seq > c.Seq:
			return returned{old, false}
		case x.Seq == c.Seq && again < 0:
			again = i
		}
	}
	if again >= 0 {
		return returned{before[again].reply, false}
	}
	return returned{s.Do(c), true}
}

// wanted is what an application is to have after commands, which returned this.
func wanted(s *kv.State, l []api.Cmd, got []returned) want {
	w := want{0, values{}, clients{}}
	for i, c := range l {
		if got[i].fresh {
			w.count++
			w.table[c.Client] = kept{c.Seq, got[i].reply}
		}
		for _, key := range c.Keys {
			if value, is := s.Get(key); is {
				w.state[key] = value
			}
		}
	}
	return w
}

func TestRandomCommandsBesideModel(t *testing.T) {
	source := rand.New(rand.NewSource(4))
	count := map[string]int{}
	for range 60 {
		a, s := New(), kv.New()
		var l []api.Cmd
		var before []returned
		for step := range 120 {
			c := someCmd(source, step)
			l = append(l, c)
			x := modelled(s, l, before)
			before = append(before, x)
			if reply, fresh := a.Do(c); reply != x.reply || fresh != x.fresh {
				t.Fatalf("%+v: %+v, %v, want %+v", c, reply, fresh, x)
			}
			count[sortOf(c, x)]++
			holds(t, a, wanted(s, l, before))
			if source.Intn(10) == 0 {
				copied := a.Copy()
				a.Do(of(1, most, clearing("a", "b", "c")))
				a = copied
			}
			if source.Intn(10) == 0 {
				a = appOf(t, string(a.Bytes()))
			}
			if t.Failed() {
				return
			}
		}
		if !Same(a, Fold(l)) {
			t.Fatalf("%q, folded %q", a.Bytes(), Fold(l).Bytes())
		}
	}
	for _, what := range []string{"fresh", "fresh and bad", "again", "old", "of none"} {
		if count[what] < 300 {
			t.Errorf("too few of a sort: %v", count)
		}
	}
}

// sortOf is what sort of command one was.
func sortOf(c api.Cmd, x returned) string {
	switch {
	case c.Client == 0:
		return "of none"
	case x.fresh && x.reply.Code == api.Bad:
		return "fresh and bad"
	case x.fresh:
		return "fresh"
	case x.reply == old:
		return "old"
	}
	return "again"
}

func TestHoweverOftenACommandComesItIsExecutedOnce(t *testing.T) {
	source := rand.New(rand.NewSource(5))
	for range 100 {
		// Each client's commands, in order.
		var once []api.Cmd
		next := map[uint32]uint32{}
		for range 30 {
			c := someCmd(source, 0)
			if c.Client == 0 {
				continue
			}
			c.Seq = next[c.Client]
			next[c.Client]++
			once = append(once, c)
		}
		plain := New()
		a := New()
		for i, c := range once {
			first, fresh := plain.Do(c)
			if !fresh {
				t.Fatalf("%+v is not fresh", c)
			}
			// Any of those that came before come again, in any order.
			for range source.Intn(4) {
				a.Do(once[source.Intn(i+1)])
			}
			for range 1 + source.Intn(3) {
				if reply, _ := a.Do(c); reply != first {
					t.Fatalf("%+v: %+v, want %+v", c, reply, first)
				}
			}
			if !Same(a, plain) || a.Count() != uint64(i+1) {
				t.Fatalf("%q, with each command once %q", a.Bytes(), plain.Bytes())
			}
		}
	}
}

func TestReplyIsTheFirstOnesAsLongAsItsClientHasNotProceeded(t *testing.T) {
	a := New()
	first, _ := a.Do(of(5, 7, add("a", 1)))
	for client := range uint32(200) {
		if client == 5 {
			continue
		}
		for _, seq := range []uint32{0, 6, 7, 8, most} {
			a.Do(of(client, seq, add("a", 1)))
			if reply, fresh := a.Do(of(5, 7, add("a", 1))); reply != first || reply != did("1") || fresh {
				t.Fatalf("%+v, %v after %d of %d", reply, fresh, seq, client)
			}
		}
	}
	count := a.Count()
	if reply, fresh := a.Do(of(5, 8, get("z"))); reply != none || !fresh || a.Count() != count+1 {
		t.Errorf("%+v, %v", reply, fresh)
	}
	for range 3 {
		if reply, fresh := a.Do(of(5, 7, add("a", 1))); reply != old || fresh || a.Count() != count+1 {
			t.Errorf("%+v, %v", reply, fresh)
		}
	}
}

// R2: nothing remains but in the application

func TestSameCallsSameResults(t *testing.T) {
	run := func() (string, []returned) {
		source := rand.New(rand.NewSource(6))
		a := New()
		var l []returned
		for step := range 400 {
			reply, fresh := a.Do(someCmd(source, step))
			l = append(l, returned{reply, fresh})
		}
		return string(a.Bytes()), l
	}
	b, l := run()
	for range 20 {
		if c, again := run(); c != b || !slices.Equal(again, l) {
			t.Fatal("another run has other results")
		}
	}
}
