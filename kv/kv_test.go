package kv

import (
	"bytes"
	"encoding/binary"
	"maps"
	"math"
	"math/big"
	"math/rand"
	"reflect"
	"regexp"
	"slices"
	"sort"
	"strings"
	"testing"

	"quorate/api"
	"quorate/varint"
)

var (
	longKey   = strings.Repeat("k", api.MaxKey)
	longValue = strings.Repeat("v", api.MaxValue)
)

func put(key, value string) api.Cmd {
	return api.Cmd{Client: 1, Kind: api.Put, Keys: []string{key}, New: value}
}

func get(key string) api.Cmd { return api.Cmd{Client: 1, Kind: api.Get, Keys: []string{key}} }

func del(key string) api.Cmd { return api.Cmd{Client: 1, Kind: api.Del, Keys: []string{key}} }

func add(key string, n int64) api.Cmd {
	return api.Cmd{Client: 1, Kind: api.Add, Keys: []string{key}, N: n}
}

func cas(key, old, value string) api.Cmd {
	return api.Cmd{Client: 1, Kind: api.Cas, Keys: []string{key}, Old: old, New: value}
}

func swap(a, b string) api.Cmd { return api.Cmd{Client: 1, Kind: api.Swap, Keys: []string{a, b}} }

func join(keys ...string) api.Cmd { return api.Cmd{Client: 1, Kind: api.Join, Keys: keys} }

func clearing(keys ...string) api.Cmd { return api.Cmd{Client: 1, Kind: api.Clear, Keys: keys} }

var (
	none = api.Reply{Code: api.None}
	bad  = api.Reply{Code: api.Bad}
)

// did is the reply to a command that was done.
func did(text string) api.Reply { return api.Reply{Text: text} }

// encoded is the bytes of a state, by means of its own.
func encoded(want map[string]string) string {
	var keys []string
	for key := range want {
		keys = append(keys, key)
	}
	sort.Strings(keys)
	b := binary.AppendUvarint(nil, uint64(len(keys)))
	for _, key := range keys {
		b = append(binary.AppendUvarint(b, uint64(len(key))), key...)
		b = append(binary.AppendUvarint(b, uint64(len(want[key]))), want[key]...)
	}
	return string(b)
}

// pairs are the bytes of keys and values, in turn, in the order in which they stand there.
func pairs(texts ...string) string {
	b := binary.AppendUvarint(nil, uint64(len(texts)/2))
	for _, s := range texts {
		b = append(binary.AppendUvarint(b, uint64(len(s))), s...)
	}
	return string(b)
}

// stateOf is a state with these keys and values.
func stateOf(t testing.TB, want map[string]string) *State {
	t.Helper()
	s := New()
	for key, value := range want {
		if got := s.Do(put(key, value)); got != did("") {
			t.Fatalf("Put %q %q: %+v", key, value, got)
		}
	}
	return s
}

// holds tells whether a state has these keys and values, and no others.
func holds(t testing.TB, s *State, want map[string]string) {
	t.Helper()
	if s.Len() != len(want) {
		t.Errorf("%d keys, want %d", s.Len(), len(want))
	}
	for key, value := range want {
		if got, is := s.Get(key); got != value || !is {
			t.Errorf("Get(%q): %q, %v, want %q", key, got, is, value)
		}
		if _, other := want[key+"'"]; !other {
			if got, is := s.Get(key + "'"); got != "" || is {
				t.Errorf("Get(%q): %q, %v, want none", key+"'", got, is)
			}
		}
	}
	if got := string(s.Put(nil)); got != encoded(want) {
		t.Errorf("bytes %q, want %q", got, encoded(want))
	}
}

// does tells whether a command returns this reply, and what the state has then.
func does(t testing.TB, s *State, c api.Cmd, reply api.Reply, then map[string]string) {
	t.Helper()
	if got := s.Do(c); got != reply {
		t.Errorf("%+v: %+v, want %+v", c, got, reply)
	}
	holds(t, s, then)
}

// ahead is a new state with these keys and values, of which one command returns this reply.
func ahead(t testing.TB, first map[string]string, c api.Cmd, reply api.Reply, then map[string]string) {
	t.Helper()
	s := stateOf(t, first)
	before := s.Copy()
	does(t, s, c, reply, then)
	holds(t, before, first)
	if Same(before, s) != maps.Equal(first, then) {
		t.Errorf("%+v: Same says %v", c, Same(before, s))
	}
}

type values = map[string]string

// P9.1: New, Get, Len

func TestNew(t *testing.T) {
	s := New()
	holds(t, s, nil)
	for _, key := range []string{"", "a", "\x00", longKey, longKey + "k", strings.Repeat("k", 1<<20)} {
		if value, is := s.Get(key); value != "" || is {
			t.Errorf("Get(%q): %q, %v", key, value, is)
		}
	}
	other := New()
	other.Do(put("a", "1"))
	holds(t, s, nil)
}

func TestGetAndLen(t *testing.T) {
	s := New()
	want := values{}
	for i := range 300 {
		key := string([]byte{'k', byte(i), byte(i / 256)})
		want[key] = strings.Repeat("v", i%65)
		does(t, s, put(key, want[key]), did(""), want)
	}
	for i := range 300 {
		key := string([]byte{'k', byte(i), byte(i / 256)})
		s.Do(del(key))
		delete(want, key)
		if _, is := s.Get(key); is || s.Len() != 299-i {
			t.Fatalf("%d keys after %d are gone", s.Len(), i+1)
		}
	}
	holds(t, s, want)
}

func TestGetOfKeysThatMayNotBe(t *testing.T) {
	s := stateOf(t, values{longKey: "1"})
	for _, key := range []string{"", longKey + "k", longKey[1:], strings.ToUpper(longKey)} {
		if value, is := s.Get(key); value != "" || is {
			t.Errorf("Get(%q): %q, %v", key, value, is)
		}
	}
}

// P9.1: Do

func TestExamples(t *testing.T) {
	s := New()
	does(t, s, put("a", "7"), did(""), values{"a": "7"})
	does(t, s, add("a", -9), did("-2"), values{"a": "-2"})
	does(t, s, get("a"), did("-2"), values{"a": "-2"})
	does(t, s, swap("a", "b"), did(""), values{"b": "-2"})
	does(t, s, get("a"), none, values{"b": "-2"})
	does(t, s, join("a", "b"), did(",-2,"), values{"b": "-2"})

	s = New()
	does(t, s, put("a", "x"), did(""), values{"a": "x"})
	does(t, s, add("a", 1), bad, values{"a": "x"})
	does(t, s, cas("a", "y", "z"), bad, values{"a": "x"})
	does(t, s, del("a"), did("x"), nil)
	does(t, s, clearing("a", "b"), did("0"), nil)
}

func TestPut(t *testing.T) {
	ahead(t, nil, put("a", "1"), did(""), values{"a": "1"})
	ahead(t, values{"a": "1"}, put("a", "2"), did(""), values{"a": "2"})
	ahead(t, values{"a": "1"}, put("a", ""), did(""), values{"a": ""})
	ahead(t, values{"a": "1"}, put("b", "2"), did(""), values{"a": "1", "b": "2"})
	ahead(t, values{"a": "1"}, put("A", "2"), did(""), values{"a": "1", "A": "2"})
	ahead(t, nil, put(longKey, longValue), did(""), values{longKey: longValue})
	ahead(t, values{"\x00": "1"}, put("\x00\x00", "\x00"), did(""), values{"\x00": "1", "\x00\x00": "\x00"})
	ahead(t, nil, put("\xff\x80", "\xc3"), did(""), values{"\xff\x80": "\xc3"})
}

func TestEmptyValueIsOne(t *testing.T) {
	s := New()
	empty := values{"a": ""}
	does(t, s, put("a", ""), did(""), empty)
	does(t, s, get("a"), did(""), empty)
	if value, is := s.Get("a"); value != "" || !is {
		t.Errorf("Get: %q, %v", value, is)
	}
	does(t, s, join("a", "b"), did(",,"), empty)
	does(t, s, cas("a", "x", "y"), bad, empty)
	does(t, s, add("a", 1), bad, empty)
	does(t, s, swap("a", "b"), did(""), values{"b": ""})
	does(t, s, swap("a", "b"), did(""), empty)
	does(t, s, del("a"), did(""), nil)
	does(t, s, del("a"), none, nil)
	does(t, s, get("a"), none, nil)
	ahead(t, empty, clearing("a"), did("1"), nil)
	ahead(t, empty, cas("a", "", "x"), did(""), values{"a": "x"})
	ahead(t, empty, cas("a", "", ""), did(""), empty)
}

func TestGetAsCommand(t *testing.T) {
	for _, value := range []string{"", "1", ",", "\x00", longValue} {
		first := values{"a": value, "b": "2"}
		ahead(t, first, get("a"), did(value), first)
		ahead(t, first, get("c"), none, first)
	}
	ahead(t, nil, get(longKey), none, nil)
}

func TestDel(t *testing.T) {
	for _, value := range []string{"", "1", ",", "\x00", longValue} {
		ahead(t, values{"a": value, "b": "2"}, del("a"), did(value), values{"b": "2"})
	}
	ahead(t, values{"b": "2"}, del("a"), none, values{"b": "2"})
	ahead(t, nil, del("a"), none, nil)
}

func TestAdd(t *testing.T) {
	const least, most = "-9223372036854775808", "9223372036854775807"
	for _, x := range []struct {
		value string
		n     int64
		want  string
	}{
		{"0", 0, "0"}, {"0", 1, "1"}, {"0", -1, "-1"}, {"7", -9, "-2"}, {"-2", 9, "7"}, {"-5", 5, "0"}, {"5", -5, "0"}, {"-1", -1, "-2"}, {"9", 1, "10"}, {"-10", 1, "-9"}, {"99", 1, "100"}, {"42", 0, "42"}, {"-42", 0, "-42"},
		{"0", math.MaxInt64, most}, {"0", math.MinInt64, least}, {"1", math.MaxInt64 - 1, most}, {"-1", math.MinInt64 + 1, least}, {"-1", math.MaxInt64, "9223372036854775806"}, {"1", math.MinInt64, "-9223372036854775807"},
		{most, 0, most}, {most, -1, "9223372036854775806"}, {most, math.MinInt64, "-1"}, {most, -math.MaxInt64, "0"}, {"9223372036854775806", 1, most},
		{least, 0, least}, {least, 1, "-9223372036854775807"}, {least, math.MaxInt64, "-1"}, {"-9223372036854775807", -1, least}, {"-9223372036854775807", math.MaxInt64, "0"},
		{"4611686018427387903", 4611686018427387904, most}, {"-4611686018427387904", -4611686018427387904, least},
	} {
		ahead(t, values{"a": x.value, "b": "2"}, add("a", x.n), did(x.want), values{"a": x.want, "b": "2"})
	}
	for _, x := range []struct {
		value string
		n     int64
	}{
		{most, 1}, {most, 2}, {most, math.MaxInt64}, {"1", math.MaxInt64}, {"2", math.MaxInt64 - 1}, {"4611686018427387904", 4611686018427387904},
		{least, -1}, {least, -2}, {least, math.MinInt64}, {"-1", math.MinInt64}, {"-2", math.MinInt64 + 1}, {"-4611686018427387905", -4611686018427387904},
	} {
		first := values{"a": x.value, "b": "2"}
		ahead(t, first, add("a", x.n), bad, first)
	}
}

func TestAddOnNoValue(t *testing.T) {
	for n, want := range map[int64]string{0: "0", 1: "1", -1: "-1", 10: "10", math.MaxInt64: "9223372036854775807", math.MinInt64: "-9223372036854775808"} {
		ahead(t, values{"b": "2"}, add("a", n), did(want), values{"a": want, "b": "2"})
		ahead(t, nil, add("a", n), did(want), values{"a": want})
	}
}

// noNumbers are values that are no number of 64 bits as such digits.
var noNumbers = []string{
	"", "-", "--1", "-0", "+0", "+1", "+", "00", "01", "-01", "-00", "007", "1_0", "_1", "0x1", "0b1", "1e3", "1.0", "1.", ".5",
	" ", " 1", "1 ", "1\n", "\t1", "1 2", "a", "1a", "a1", "1,", ",", "\x00", "1\x00", "\xff", "−1", "١", "inf", "NaN",
	"9223372036854775808", "-9223372036854775809", "9223372036854775810", "18446744073709551615", "18446744073709551616", "-18446744073709551616",
	strings.Repeat("9", api.MaxValue), "-" + strings.Repeat("9", api.MaxValue-1), strings.Repeat("0", api.MaxValue), strings.Repeat("0", api.MaxValue-1) + "1", "1" + strings.Repeat("0", api.MaxValue-1),
}

func TestAddOnNoNumber(t *testing.T) {
	for _, value := range noNumbers {
		for _, n := range []int64{0, 1, -1, math.MaxInt64, math.MinInt64} {
			first := values{"a": value, "b": "2"}
			ahead(t, first, add("a", n), bad, first)
		}
	}
}

func TestCas(t *testing.T) {
	ahead(t, values{"a": "1"}, cas("a", "1", "2"), did(""), values{"a": "2"})
	ahead(t, values{"a": "1"}, cas("a", "1", "1"), did(""), values{"a": "1"})
	ahead(t, values{"a": "1"}, cas("a", "1", ""), did(""), values{"a": ""})
	ahead(t, values{"a": longValue}, cas("a", longValue, longValue), did(""), values{"a": longValue})
	ahead(t, values{"a": "1"}, cas("a", "", "2"), bad, values{"a": "1"})
	ahead(t, values{"a": "1"}, cas("a", "2", "2"), bad, values{"a": "1"})
	ahead(t, values{"a": "1"}, cas("a", "01", "2"), bad, values{"a": "1"})
	ahead(t, values{"a": "x"}, cas("a", "X", "2"), bad, values{"a": "x"})
	ahead(t, values{"a": "12"}, cas("a", "1", "2"), bad, values{"a": "12"})
	// None, whatever Old is: that there is no value is not an empty one.
	for _, old := range []string{"", "1", longValue} {
		ahead(t, nil, cas("a", old, "2"), none, nil)
		ahead(t, values{"b": old}, cas("a", old, "2"), none, values{"b": old})
	}
}

func TestSwap(t *testing.T) {
	ahead(t, values{"a": "1", "b": "2"}, swap("a", "b"), did(""), values{"a": "2", "b": "1"})
	ahead(t, values{"a": "1", "b": "2"}, swap("b", "a"), did(""), values{"a": "2", "b": "1"})
	ahead(t, values{"a": "1", "b": "1"}, swap("a", "b"), did(""), values{"a": "1", "b": "1"})
	ahead(t, values{"a": "1", "c": "3"}, swap("a", "b"), did(""), values{"b": "1", "c": "3"})
	ahead(t, values{"b": "1", "c": "3"}, swap("a", "b"), did(""), values{"a": "1", "c": "3"})
	ahead(t, values{"c": "3"}, swap("a", "b"), did(""), values{"c": "3"})
	ahead(t, nil, swap("a", "b"), did(""), nil)
	ahead(t, values{"a": "1"}, swap("a", "a"), did(""), values{"a": "1"})
	ahead(t, values{"a": ""}, swap("a", "a"), did(""), values{"a": ""})
	ahead(t, nil, swap("a", "a"), did(""), nil)
	ahead(t, values{longKey: longValue}, swap(longKey, "b"), did(""), values{"b": longValue})
}

// numbered are n keys in their order, each with a value.
func numbered(n int) ([]string, values) {
	var keys []string
	all := values{}
	for i := range n {
		key := string(rune('a' + i))
		keys = append(keys, key)
		all[key] = strings.Repeat("v", i)
	}
	return keys, all
}

func TestJoin(t *testing.T) {
	first := values{"a": "1", "b": "22", "c": ""}
	for _, x := range []struct {
		keys []string
		want string
	}{
		{[]string{"a"}, "1,"}, {[]string{"b"}, "22,"}, {[]string{"c"}, ","}, {[]string{"d"}, ","}, {[]string{"a", "b"}, "1,22,"}, {[]string{"b", "a"}, "22,1,"}, {[]string{"d", "e"}, ",,"},
		{[]string{"a", "d", "b"}, "1,,22,"}, {[]string{"a", "a"}, "1,1,"}, {[]string{"a", "b", "a"}, "1,22,1,"}, {[]string{"c", "d", "a"}, ",,1,"},
	} {
		ahead(t, first, join(x.keys...), did(x.want), first)
	}
	ahead(t, nil, join("a"), did(","), nil)

	keys, all := numbered(api.MaxKeys)
	var want string
	for _, key := range keys {
		want += all[key] + ","
	}
	ahead(t, all, join(keys...), did(want), all)
	ahead(t, nil, join(keys...), did(strings.Repeat(",", api.MaxKeys)), nil)
	ahead(t, all, join(slices.Repeat([]string{"c"}, api.MaxKeys)...), did(strings.Repeat("vv,", api.MaxKeys)), all)
}

func TestJoinOfCommas(t *testing.T) {
	first := values{"a": ",", "b": "1,2", "c": ",,"}
	ahead(t, first, join("a", "b", "c", "d"), did(",,1,2,,,,,"), first)
}

func TestJoinOfLongTexts(t *testing.T) {
	first := values{"a": longValue, "b": strings.Repeat("w", api.MaxValue)}
	ahead(t, first, join("a"), did(longValue+","), first)
	ahead(t, first, join("a", "b"), did(longValue+","+first["b"]+","), first)
	ahead(t, first, join(slices.Repeat([]string{"a"}, api.MaxKeys)...), did(strings.Repeat(longValue+",", api.MaxKeys)), first)
}

func TestClear(t *testing.T) {
	first := values{"a": "1", "b": "", "c": "3"}
	ahead(t, first, clearing("a"), did("1"), values{"b": "", "c": "3"})
	ahead(t, first, clearing("b"), did("1"), values{"a": "1", "c": "3"})
	ahead(t, first, clearing("a", "b"), did("2"), values{"c": "3"})
	ahead(t, first, clearing("d"), did("0"), first)
	ahead(t, first, clearing("d", "a", "e"), did("1"), values{"b": "", "c": "3"})
	ahead(t, first, clearing("a", "a"), did("1"), values{"b": "", "c": "3"})
	ahead(t, first, clearing("a", "d", "d", "a", "b", "a"), did("2"), values{"c": "3"})
	ahead(t, first, clearing("c", "b", "a"), did("3"), nil)
	ahead(t, nil, clearing("a", "b"), did("0"), nil)

	keys, all := numbered(api.MaxKeys)
	ahead(t, all, clearing(keys...), did("16"), nil)
	rest := maps.Clone(all)
	delete(rest, "b")
	ahead(t, all, clearing(slices.Repeat([]string{"b"}, api.MaxKeys)...), did("1"), rest)
	ahead(t, nil, clearing(keys...), did("0"), nil)
}

// invalid are commands that are not valid, each by one thing.
func invalid() []api.Cmd {
	keys, _ := numbered(api.MaxKeys + 1)
	l := []api.Cmd{{}, {Client: 1}, put("", "1"), put(longKey+"k", "1"), put("a", longValue+"v"), get(""), del(""), add("", 1), cas("", "1", "2"), cas("a", longValue+"v", "1"), cas("a", "1", longValue+"v"),
		swap("a", ""), swap("", "a"), join(), join(""), join("a", ""), join(keys...), clearing(), clearing(""), clearing("a", ""), clearing("a", longKey+"k"), clearing(keys...)}
	for kind := api.Put; kind <= api.Clear; kind++ {
		l = append(l, api.Cmd{Client: 1, Kind: kind})
	}
	for _, c := range []api.Cmd{put("a", "9"), get("a"), del("a"), add("a", 1), cas("a", "1", "9"), swap("a", "b"), join("a", "b"), clearing("a", "b")} {
		change := func(by func(c *api.Cmd)) {
			wrong := c
			by(&wrong)
			l = append(l, wrong)
		}
		change(func(c *api.Cmd) { c.Client = 0 })
		if c.Kind != api.Cas {
			change(func(c *api.Cmd) { c.Old = "1" })
		}
		if c.Kind != api.Cas && c.Kind != api.Put {
			change(func(c *api.Cmd) { c.New = "1" })
		}
		if c.Kind != api.Add {
			change(func(c *api.Cmd) { c.N = 1 })
		}
		if c.Kind < api.Swap {
			change(func(c *api.Cmd) { c.Keys = []string{"a", "b"} })
		}
		if c.Kind == api.Swap {
			change(func(c *api.Cmd) { c.Keys = []string{"a"} })
			change(func(c *api.Cmd) { c.Keys = []string{"a", "b", "c"} })
		}
	}
	return l
}

func TestInvalidCommandsDoNothing(t *testing.T) {
	first := values{"a": "1", "b": "2"}
	for _, c := range invalid() {
		ahead(t, first, c, bad, first)
		ahead(t, nil, c, bad, nil)
	}
}

func TestOtherKindsDoNothing(t *testing.T) {
	first := values{"a": "1", "b": "2"}
	for kind := range 256 {
		if kind >= 1 && kind <= 8 {
			continue
		}
		for _, keys := range [][]string{nil, {"a"}, {"a", "b"}} {
			ahead(t, first, api.Cmd{Client: 1, Kind: uint8(kind), Keys: keys}, bad, first)
		}
	}
}

func TestEachKindHasItsEffect(t *testing.T) {
	table := effects()
	if len(table) != 8 {
		t.Errorf("%d effects", len(table))
	}
	for kind := api.Put; kind <= api.Clear; kind++ {
		if table[kind] == nil {
			t.Errorf("no effect of kind %d", kind)
		}
	}
}

func TestClientAndSeqDoNotMatter(t *testing.T) {
	for _, client := range []uint32{1, 2, math.MaxUint32} {
		for _, seq := range []uint32{0, 1, math.MaxUint32} {
			c := add("a", 1)
			c.Client, c.Seq = client, seq
			s := stateOf(t, values{"a": "1"})
			does(t, s, c, did("2"), values{"a": "2"})
			// A command that comes again is executed again: here nothing is known of sessions.
			does(t, s, c, did("3"), values{"a": "3"})
		}
	}
}

// P9.1: Copy

func TestCopy(t *testing.T) {
	first := values{"a": "1", "b": "2"}
	s := stateOf(t, first)
	c := s.Copy()
	if c == s {
		t.Error("the copy is the state")
	}
	holds(t, c, first)
	if !Same(s, c) {
		t.Error("the copy is not equal")
	}
	s.Do(put("a", "3"))
	s.Do(del("b"))
	s.Do(put("c", ""))
	holds(t, c, first)
	c.Do(clearing("a", "b"))
	holds(t, c, nil)
	holds(t, s, values{"a": "3", "c": ""})
	holds(t, c.Copy(), nil)
}

func TestCopyOfEmptyOne(t *testing.T) {
	s := New()
	c, d := s.Copy(), s.Copy()
	c.Do(put("a", "1"))
	holds(t, s, nil)
	holds(t, d, nil)
	s.Do(put("b", "1"))
	d.Do(put("c", "1"))
	holds(t, s, values{"b": "1"})
	holds(t, c, values{"a": "1"})
	holds(t, d, values{"c": "1"})
}

func TestCopyOfEachEffect(t *testing.T) {
	first := values{"a": "1", "b": "2"}
	for _, c := range []api.Cmd{put("a", "9"), put("c", "9"), get("a"), del("a"), add("a", 1), cas("a", "1", "9"), swap("a", "b"), swap("a", "c"), join("a", "b"), clearing("a", "b")} {
		s := stateOf(t, first)
		copied := s.Copy()
		s.Do(c)
		holds(t, copied, first)
		copied = s.Copy()
		then := string(s.Put(nil))
		copied.Do(c)
		if got := string(s.Put(nil)); got != then {
			t.Errorf("%+v of the copy: the state is %q, was %q", c, got, then)
		}
	}
}

// R1: no object

func TestNil(t *testing.T) {
	var s *State
	for _, c := range append(invalid(), put("a", "1"), get("a"), del("a"), add("a", 1), cas("a", "", "1"), swap("a", "b"), join("a"), clearing("a")) {
		if got := s.Do(c); got != bad {
			t.Errorf("%+v: %+v", c, got)
		}
	}
	if value, is := s.Get("a"); value != "" || is {
		t.Errorf("Get: %q, %v", value, is)
	}
	if s.Len() != 0 {
		t.Errorf("Len: %d", s.Len())
	}
	if c := s.Copy(); c != nil {
		t.Errorf("Copy: %+v", c)
	}
	if b := s.Put(nil); string(b) != "\x00" {
		t.Errorf("Put: %x", b)
	}
	if b := s.Put([]byte("ab")); string(b) != "ab\x00" {
		t.Errorf("Put: %x", b)
	}
	if x, e := Take(nil); x != nil || e != api.ErrNil {
		t.Errorf("Take: %+v, %v", x, e)
	}
}

func TestZeroStateIsEmpty(t *testing.T) {
	s := &State{}
	holds(t, s, nil)
	does(t, s, swap("a", "b"), did(""), nil)
	does(t, s, clearing("a", "b"), did("0"), nil)
	does(t, s, put("a", "1"), did(""), values{"a": "1"})
}

// P9.2: Put

// roomy is a copy with spare capacity, of bytes that are told apart.
func roomy(b string) []byte {
	long := append([]byte(b), bytes.Repeat([]byte{0xee}, 4096)...)
	return long[:len(b)]
}

func TestPutBytes(t *testing.T) {
	for _, x := range []struct {
		first values
		want  string
	}{
		{nil, "\x00"},
		{values{"a": ""}, "\x01\x01a\x00"},
		{values{"a": "7"}, "\x01\x01a\x017"},
		{values{"b": "vb", "a": "va"}, "\x02\x01a\x02va\x01b\x02vb"},
		{values{"b": "1", "ab": "2", "a": "3", "aa": "4"}, "\x04\x01a\x013\x02aa\x014\x02ab\x012\x01b\x011"},
		{values{"\xff": "1", "\x80": "2", "z": "3", "\x00": "4", "Z": "5"}, "\x05\x01\x00\x014\x01Z\x015\x01z\x013\x01\x80\x012\x01\xff\x011"},
		{values{"é": "1", "z": "2"}, "\x02\x01z\x012\x02é\x011"},
		{values{longKey: longValue}, "\x01\x20" + longKey + "\x40" + longValue},
	} {
		s := stateOf(t, x.first)
		for _, b := range []string{"", "b", "bytes", strings.Repeat("long", 1000)} {
			given := roomy(b)
			spare := slices.Clone(given[:cap(given)])
			got := s.Put(given)
			if string(got) != b+x.want {
				t.Errorf("Put of %v behind %d bytes: %q", x.first, len(b), got)
			}
			for i := range got[:cap(got)] {
				got[:cap(got)][i] = 'x'
			}
			if !bytes.Equal(given[:cap(given)], spare) {
				t.Error("the given bytes, or their spare capacity, changed")
			}
			if again := s.Put(nil); string(again) != x.want {
				t.Errorf("later bytes show what the caller wrote: %q", again)
			}
		}
	}
}

func TestPutBehindNoBytesOrEmptyOnes(t *testing.T) {
	s := stateOf(t, values{"a": "1"})
	if a, b := s.Put(nil), s.Put([]byte{}); !bytes.Equal(a, b) || string(a) != "\x01\x01a\x011" {
		t.Errorf("%x, %x", a, b)
	}
}

func TestPutOfManyKeys(t *testing.T) {
	for _, n := range []int{2, 127, 128, 129, 255, 256, 257, 1000} {
		want := values{}
		for i := range n {
			want[string([]byte{byte(i * 7), byte(i >> 8), byte(i)})] = strings.Repeat("v", i%(api.MaxValue+1))
		}
		s := stateOf(t, want)
		holds(t, s, want)
		takes(t, encoded(want), want, "")
	}
}

// P9.2: Take

// takes tells whether a reader reads this state, and these bytes are left.
func takes(t testing.TB, b string, want values, left string) {
	t.Helper()
	r := varint.NewReader([]byte(b), 1<<20)
	s, e := Take(r)
	if s == nil || e != api.OK || r.Err() != api.OK {
		t.Errorf("Take of %q: %v, %v, %v", b, s, e, r.Err())
		return
	}
	holds(t, s, want)
	for _, c := range []byte(left) {
		if got := r.Byte(); got != c {
			t.Errorf("Take of %q: %x is left, want %x", b, got, c)
		}
	}
	if e := r.Done(); e != api.OK {
		t.Errorf("Take of %q: other bytes are left than %q: %v", b, left, e)
	}
}

// refuses tells whether a reader reads no state, by this error.
func refuses(t testing.TB, b string, limit int, want api.Errno) {
	t.Helper()
	if s, e := Take(varint.NewReader([]byte(b), limit)); s != nil || e != want {
		t.Errorf("Take of %q, texts of %d: %+v, %v, want %v", b, limit, s, e, want)
	}
}

func TestTake(t *testing.T) {
	for _, want := range []values{
		nil, {"a": ""}, {"a": "1"}, {"a": "1", "b": "2"}, {"a": "", "aa": "", "b": "", "\xff": ""}, {"\x00": "\x00", "\x00\x00": longValue}, {longKey: longValue, longKey[1:]: "", "z": "-1"},
	} {
		for _, left := range []string{"", "\x00", "\x01\x01a\x00", "\xff"} {
			takes(t, encoded(want)+left, want, left)
		}
	}
}

func TestTakeTwice(t *testing.T) {
	r := varint.NewReader([]byte(encoded(values{"b": "1"})+encoded(values{"a": "2"})), api.MaxValue)
	for _, want := range []values{{"b": "1"}, {"a": "2"}} {
		s, e := Take(r)
		if e != api.OK {
			t.Fatal(e)
		}
		holds(t, s, want)
	}
	if s, e := Take(r); s != nil || e != api.ErrShort {
		t.Errorf("behind the last one: %+v, %v", s, e)
	}
}

func TestTakenOneIsIndependent(t *testing.T) {
	b := []byte(encoded(values{"a": "1", "b": "2"}))
	s, e := Take(varint.NewReader(b, api.MaxValue))
	if e != api.OK {
		t.Fatal(e)
	}
	for i := range b {
		b[i] = 'x'
	}
	holds(t, s, values{"a": "1", "b": "2"})
	does(t, s, swap("a", "c"), did(""), values{"b": "2", "c": "1"})
	empty, e := Take(varint.NewReader([]byte{0}, 0))
	if e != api.OK {
		t.Fatal(e)
	}
	does(t, empty, put("a", "1"), did(""), values{"a": "1"})
}

func TestTakeOfBytesThatEnd(t *testing.T) {
	for _, want := range []values{nil, {"a": ""}, {"a": "1"}, {"a": "1", "bb": "22", "ccc": "333"}, {longKey: longValue}} {
		b := encoded(want)
		for n := range len(b) {
			refuses(t, b[:n], api.MaxValue, api.ErrShort)
		}
	}
	all := values{}
	for i := range 200 {
		all[string([]byte{'k', byte(i)})] = "v"
	}
	b := encoded(all)
	for n := range len(b) {
		refuses(t, b[:n], api.MaxValue, api.ErrShort)
	}
}

func TestTakeOfTooManyKeys(t *testing.T) {
	one := pairs("a", "1")[1:]
	for _, n := range []uint64{2, 3, 127, 128, 1 << 20, 1 << 31, 1 << 32, 1 << 62, 1 << 63, math.MaxUint64} {
		refuses(t, string(binary.AppendUvarint(nil, n))+one, api.MaxValue, api.ErrShort)
		refuses(t, string(binary.AppendUvarint(nil, n)), api.MaxValue, api.ErrShort)
	}
	takes(t, "\x00"+one, nil, one)
	takes(t, "\x01"+one+one, values{"a": "1"}, one)
}

func TestTakeOfNumbersThatAreNone(t *testing.T) {
	for _, number := range []string{"\x80\x00", "\x81\x00", "\xff\xff\xff\xff\xff\xff\xff\xff\xff\x02", strings.Repeat("\x80", 10) + "\x01"} {
		refuses(t, number+"\x01a\x00", api.MaxValue, api.ErrForm)
		refuses(t, "\x01"+number+"a\x00", api.MaxValue, api.ErrForm)
		refuses(t, "\x01\x01a"+number, api.MaxValue, api.ErrForm)
	}
}

func TestTakeOfKeysThatAreNotInOrder(t *testing.T) {
	for _, b := range []string{
		pairs("b", "", "a", ""), pairs("a", "", "a", ""), pairs("a", "1", "a", "2"), pairs("aa", "", "a", ""), pairs("a", "", "A", ""), pairs("\xff", "", "\x80", ""), pairs("\x80", "", "z", ""), pairs("é", "", "z", ""),
		pairs("a", "", "b", "", "b", ""), pairs("a", "", "c", "", "b", ""), pairs("b", "", "c", "", "a", ""), pairs("a", "", "a", "", "b", ""), pairs("b", "", "a", "", "c", ""), pairs(longKey, "", longKey, ""), pairs(longKey, "", longKey[1:], ""),
		pairs("a", "", "\x00", ""), pairs("ab", "", "aab", ""),
	} {
		refuses(t, b, 1<<20, api.ErrForm)
		refuses(t, b+"\x00", 1<<20, api.ErrForm)
	}
}

func TestTakeOfLengths(t *testing.T) {
	takes(t, pairs(longKey, longValue), values{longKey: longValue}, "")
	takes(t, pairs("a", "", longKey, longValue, "z", longValue), values{"a": "", longKey: longValue, "z": longValue}, "")
	for _, b := range []string{
		pairs("", ""), pairs("", "1"), pairs("", "", "a", ""), pairs("a", "", "", ""), pairs("a", "", "", "", "b", ""), pairs("", "", "", ""),
		pairs(longKey+"k", ""), pairs("a", "", longKey+"k", ""), pairs(longKey+"k", "", "z", ""), pairs(strings.Repeat("k", 1000), ""), pairs(longValue, ""),
		pairs("a", longValue+"v"), pairs("a", longValue+"v", "b", ""), pairs("a", "", "b", longValue+"v"), pairs("a", strings.Repeat("v", 1000)),
	} {
		refuses(t, b, 1<<20, api.ErrForm)
	}
	// What the reader takes no longer texts for is its error, too.
	refuses(t, pairs("a", longValue+"v"), api.MaxValue, api.ErrForm)
	refuses(t, pairs("a", "12"), 1, api.ErrForm)
	refuses(t, pairs("a", ""), 0, api.ErrForm)
	refuses(t, pairs("a", ""), -1, api.ErrForm)
}

// The errors of the reader come first, in the order in which they come; then what is no state.
func TestTakesOrderOfErrors(t *testing.T) {
	for _, wrong := range []string{pairs("b", "", "a", ""), pairs("a", "", "a", ""), pairs("", "", "b", ""), pairs(longKey+"k", "", "z", ""), pairs("a", longValue+"v", "b", "")} {
		refuses(t, wrong, 1<<20, api.ErrForm)
		for n := range len(wrong) {
			refuses(t, wrong[:n], 1<<20, api.ErrShort)
		}
		refuses(t, "\x03"+wrong[1:], 1<<20, api.ErrShort)
		refuses(t, "\x03"+wrong[1:]+"\x80\x00", 1<<20, api.ErrForm)
	}
	refuses(t, "\x03\x01b\x00\x01a\x80\x00", 1<<20, api.ErrForm)
	refuses(t, "\x02\x01b\x02v", 1, api.ErrForm)
}

func TestTakeOfReaderThatHadAnError(t *testing.T) {
	for _, x := range []struct {
		spoil func(r *varint.Reader)
		want  api.Errno
	}{
		{func(r *varint.Reader) { r.Text() }, api.ErrForm},
		{func(r *varint.Reader) { r.Done() }, api.ErrForm},
		{func(r *varint.Reader) {
			for range 100 {
				r.Byte()
			}
		}, api.ErrShort},
	} {
		r := varint.NewReader([]byte("\x40\x01a\x00"), 1)
		x.spoil(r)
		for range 2 {
			if s, e := Take(r); s != nil || e != x.want || r.Err() != x.want {
				t.Errorf("%+v, %v, %v, want %v", s, e, r.Err(), x.want)
			}
		}
	}
}

func FuzzTake(f *testing.F) {
	for _, b := range []string{"", "\x00", "\x01", pairs("a", "1"), pairs("a", "1", "b", "2"), pairs("b", "", "a", ""), pairs("a", "", "a", ""), pairs("", ""), pairs(longKey+"k", ""), pairs("a", longValue+"v"), "\x01\x81\x00a\x00", pairs("a", "1") + "x"} {
		f.Add([]byte(b))
	}
	f.Fuzz(func(t *testing.T, b []byte) {
		given := slices.Clone(b)
		s, e := Take(varint.NewReader(b, 1<<20))
		want, left, is := decoded(b)
		if is != (e == api.OK) || is != (s != nil) || !bytes.Equal(b, given) {
			t.Fatalf("Take of %x: %+v, %v", b, s, e)
		}
		if is {
			holds(t, s, want)
			if got := string(s.Put(nil)) + string(left); got != string(b) {
				t.Errorf("other bytes: %x of %x", got, b)
			}
		}
	})
}

// decoded is what bytes are a state of, and what is left, by means of its own.
func decoded(b []byte) (values, []byte, bool) {
	number := func() (uint64, bool) {
		n, size := binary.Uvarint(b)
		if size <= 0 || size > 1 && b[size-1] == 0 {
			return 0, false
		}
		b = b[size:]
		return n, true
	}
	text := func(most uint64) (string, bool) {
		n, is := number()
		if !is || n > most || n > uint64(len(b)) {
			return "", false
		}
		s := string(b[:n])
		b = b[n:]
		return s, true
	}
	all := values{}
	n, is := number()
	var last string
	for i := uint64(0); is && i < n; i++ {
		key, isKey := text(32)
		value, isValue := text(64)
		if !isKey || !isValue || key == "" || i > 0 && strings.Compare(last, key) >= 0 {
			return nil, nil, false
		}
		all[key], last = value, key
	}
	return all, b, is
}

func TestTakeOfRandomBytes(t *testing.T) {
	source := rand.New(rand.NewSource(3))
	count := map[bool]int{}
	for range 30000 {
		want := values{}
		for range source.Intn(5) {
			want[strings.Repeat(string([]byte{byte(source.Intn(256))}), 1+source.Intn(3))] = strings.Repeat("v", source.Intn(4))
		}
		b := []byte(encoded(want))
		for range source.Intn(3) {
			switch at := source.Intn(len(b)); source.Intn(3) {
			case 0:
				b[at] ^= 1 << source.Intn(8)
			case 1:
				b = append(b[:at:at], b[at+1:]...)
			case 2:
				b = append(b, byte(source.Intn(256)))
			}
			if len(b) == 0 {
				break
			}
		}
		s, e := Take(varint.NewReader(b, 1<<20))
		got, left, is := decoded(b)
		count[is]++
		if is != (e == api.OK) || is != (s != nil) || !is && e != api.ErrShort && e != api.ErrForm {
			t.Fatalf("Take of %x: %+v, %v", b, s, e)
		}
		if is {
			holds(t, s, got)
			if string(s.Put(nil))+string(left) != string(b) {
				t.Fatalf("other bytes than %x", b)
			}
		}
	}
	if count[true] < 3000 || count[false] < 3000 {
		t.Errorf("too few of a sort: %v", count)
	}
}

// P9.2: Same

func TestSame(t *testing.T) {
	a := stateOf(t, values{"a": "1", "b": "2"})
	for _, x := range []struct {
		other values
		want  bool
	}{
		{values{"a": "1", "b": "2"}, true}, {values{"a": "1", "b": "3"}, false}, {values{"a": "3", "b": "2"}, false}, {values{"a": "2", "b": "1"}, false}, {values{"a": "1", "c": "2"}, false},
		{values{"a": "1"}, false}, {values{"b": "2"}, false}, {values{"a": "1", "b": "2", "c": ""}, false}, {values{"a": "1", "b": ""}, false}, {nil, false}, {values{"a": "1", "B": "2"}, false},
	} {
		b := stateOf(t, x.other)
		if Same(a, b) != x.want || Same(b, a) != x.want {
			t.Errorf("Same with %v: %v, %v, want %v", x.other, Same(a, b), Same(b, a), x.want)
		}
		if !Same(b, b) || !Same(b, b.Copy()) {
			t.Errorf("%v is not equal to itself", x.other)
		}
	}
	// An empty value is one: not the same as none, under whatever key.
	if Same(stateOf(t, values{"a": ""}), stateOf(t, values{"b": ""})) || Same(stateOf(t, values{"a": ""}), New()) {
		t.Error("an empty value is taken for none")
	}
}

func TestSameHoweverMade(t *testing.T) {
	want := values{"a": "3", "b": "x"}
	one, two, three := New(), New(), New()
	for _, c := range []api.Cmd{put("b", "x"), add("a", 3)} {
		one.Do(c)
	}
	for _, c := range []api.Cmd{put("c", "3"), put("a", "x"), swap("c", "a"), swap("b", "c"), put("z", "1"), del("z")} {
		two.Do(c)
	}
	for _, c := range []api.Cmd{put("a", "9"), clearing("a", "b"), put("a", "4"), add("a", -1), put("b", ""), cas("b", "", "x"), add("n", 1), clearing("n")} {
		three.Do(c)
	}
	four, e := Take(varint.NewReader([]byte(encoded(want)), api.MaxValue))
	if e != api.OK {
		t.Fatal(e)
	}
	all := []*State{one, two, three, four, one.Copy()}
	for _, a := range all {
		holds(t, a, want)
		for _, b := range all {
			if !Same(a, b) {
				t.Errorf("%q is not %q", a.Put(nil), b.Put(nil))
			}
		}
	}
}

func TestSameOfNil(t *testing.T) {
	emptied := stateOf(t, values{"a": "1"})
	emptied.Do(del("a"))
	none := []*State{nil, New(), emptied, emptied.Copy()}
	for _, a := range none {
		for _, b := range none {
			if !Same(a, b) {
				t.Errorf("%v is not %v", a, b)
			}
		}
		for _, b := range []*State{stateOf(t, values{"a": "1"}), stateOf(t, values{"a": ""})} {
			if Same(a, b) || Same(b, a) {
				t.Errorf("%v is %v", a, b)
			}
		}
	}
}

// P9.3: Touches

func touches(t *testing.T, c api.Cmd, want ...string) {
	t.Helper()
	if got := Touches(c); !slices.Equal(got, want) {
		t.Errorf("Touches(%+v): %q, want %q", c, got, want)
	}
}

func TestTouches(t *testing.T) {
	touches(t, put("a", "1"), "a")
	touches(t, get("a"), "a")
	touches(t, del("a"), "a")
	touches(t, add("a", 1), "a")
	touches(t, cas("a", "b", "c"), "a")
	touches(t, swap("a", "b"), "a", "b")
	touches(t, swap("b", "a"), "a", "b")
	touches(t, swap("a", "a"), "a")
	touches(t, join("c", "a", "c", "b", "a"), "a", "b", "c")
	touches(t, clearing("c", "a", "c"), "a", "c")
	touches(t, clearing(slices.Repeat([]string{"k"}, api.MaxKeys)...), "k")
	touches(t, join("b", "ab", "a", "aa", "B", "\xff", "\x80", "\x00", "é"), "\x00", "B", "a", "aa", "ab", "b", "\x80", "é", "\xff")
	keys, _ := numbered(api.MaxKeys)
	backward := slices.Clone(keys)
	slices.Reverse(backward)
	touches(t, join(backward...), keys...)
}

func TestTouchesOfInvalidOnes(t *testing.T) {
	touches(t, api.Cmd{})
	touches(t, api.Cmd{Keys: []string{}})
	touches(t, api.Cmd{Keys: []string{"c", "a", "c"}}, "a", "c")
	touches(t, api.Cmd{Kind: 9, Keys: []string{"b", "", "a", ""}}, "", "a", "b")
	touches(t, api.Cmd{Kind: 255, Keys: []string{longKey + "k"}}, longKey+"k")
	touches(t, put("", "1"), "")
	touches(t, api.Cmd{Client: 1, Kind: api.Put, Keys: []string{"b", "a"}, Old: "o", New: "n", N: 1}, "a", "b")
	for _, c := range invalid() {
		want := slices.Clone(c.Keys)
		slices.Sort(want)
		touches(t, c, slices.Compact(want)...)
	}
	var many, want []string
	for i := range 1000 {
		key := string([]byte{byte(i >> 8), byte(i)})
		want = append(want, key)
		many = append(many, key, key)
	}
	rand.New(rand.NewSource(1)).Shuffle(len(many), func(i, j int) { many[i], many[j] = many[j], many[i] })
	touches(t, api.Cmd{Keys: many}, want...)
}

// R3: what is given stays as it is, and what is returned is new

func TestKeysStayAsTheyAre(t *testing.T) {
	for _, keys := range [][]string{{"c", "a"}, {"b", "b"}, {"c", "a", "c"}, {"a", "b", "c"}, {"a"}} {
		for kind := range uint8(10) {
			given := append(make([]string, 0, 8), keys...)
			spare := given[:8]
			spare[len(keys)] = "spare"
			c := api.Cmd{Client: 1, Kind: kind, Keys: given}
			s := stateOf(t, values{"a": "1", "b": "2"})
			s.Do(c)
			got := Touches(c)
			for i := range got[:cap(got)] {
				got[:cap(got)][i] = "x"
			}
			if !slices.Equal(given, keys) || spare[len(keys)] != "spare" || spare[len(keys)+1] != "" {
				t.Errorf("kind %d: the keys %q became %q", kind, keys, spare)
			}
			before := string(s.Put(nil))
			for i := range spare {
				spare[i] = "y"
			}
			if after := string(s.Put(nil)); after != before {
				t.Errorf("kind %d: the state shows what became of the keys: %q", kind, after)
			}
		}
	}
}

func TestTouchedListsShareNothing(t *testing.T) {
	c := join("b", "a")
	one, two := Touches(c), Touches(c)
	one[0] = "x"
	_ = append(one, "y")
	if !slices.Equal(two, []string{"a", "b"}) || !slices.Equal(Touches(c), []string{"a", "b"}) {
		t.Errorf("%q", two)
	}
}

// All of it beside a model

// model is keys with values, in which each kind is written by the chapter's row.
type model struct{ keys, values []string }

func (m *model) at(key string) int { return slices.Index(m.keys, key) }

func (m *model) set(key, value string) {
	m.remove(key)
	m.keys, m.values = append(m.keys, key), append(m.values, value)
}

func (m *model) remove(key string) {
	if i := m.at(key); i >= 0 {
		m.keys, m.values = slices.Delete(m.keys, i, i+1), slices.Delete(m.values, i, i+1)
	}
}

// number is what decimal digits without leading zeros look like, of whatever size.
var number = regexp.MustCompile(`^(0|-?[1-9][0-9]*)$`)

func (m *model) do(c api.Cmd) api.Reply {
	key := c.Keys[0]
	i := m.at(key)
	switch c.Kind {
	case api.Put:
		m.set(key, c.New)
		return did("")
	case api.Get, api.Del:
		if i < 0 {
			return none
		}
		value := m.values[i]
		if c.Kind == api.Del {
			m.remove(key)
		}
		return did(value)
	case api.Add:
		return m.add(key, c.N)
	case api.Cas:
		if i < 0 {
			return none
		}
		if m.values[i] != c.Old {
			return bad
		}
		m.set(key, c.New)
		return did("")
	case api.Swap:
		for j, k := range m.keys {
			if k == key {
				m.keys[j] = c.Keys[1]
			} else if k == c.Keys[1] {
				m.keys[j] = key
			}
		}
		return did("")
	}
	return m.all(c)
}

func (m *model) add(key string, n int64) api.Reply {
	old := new(big.Int)
	if i := m.at(key); i >= 0 {
		if !number.MatchString(m.values[i]) {
			return bad
		}
		old.SetString(m.values[i], 10)
	}
	total := new(big.Int).Add(old, big.NewInt(n))
	if !old.IsInt64() || !total.IsInt64() {
		return bad
	}
	m.set(key, total.String())
	return did(total.String())
}

func (m *model) all(c api.Cmd) api.Reply {
	if c.Kind == api.Clear {
		before := len(m.keys)
		for _, key := range c.Keys {
			m.remove(key)
		}
		return did(big.NewInt(int64(before - len(m.keys))).String())
	}
	var parts []string
	for _, key := range c.Keys {
		part := ""
		if i := m.at(key); i >= 0 {
			part = m.values[i]
		}
		parts = append(parts, part)
	}
	return did(strings.Join(parts, ",") + ",")
}

func (m *model) pairs() values {
	all := values{}
	for i, key := range m.keys {
		all[key] = m.values[i]
	}
	return all
}

// someValue is a value, often a number, or nearly one.
func someValue(source *rand.Rand) string {
	if source.Intn(3) == 0 {
		return noNumbers[source.Intn(len(noNumbers))]
	}
	n := big.NewInt(int64(source.Uint64()) >> source.Intn(64))
	if source.Intn(4) == 0 {
		n.SetInt64([]int64{math.MaxInt64, math.MinInt64}[source.Intn(2)])
		n.Add(n, big.NewInt(int64(source.Intn(5)-2)))
	}
	return n.String()
}

// someCmd is a valid command on some of these keys.
func someCmd(source *rand.Rand, keys []string) api.Cmd {
	key := func() string { return keys[source.Intn(len(keys))] }
	several := func() []string {
		var l []string
		for range 1 + source.Intn(api.MaxKeys) {
			l = append(l, key())
		}
		return l
	}
	switch source.Intn(10) {
	case 0:
		return get(key())
	case 1:
		return del(key())
	case 2, 3:
		return add(key(), []int64{0, 1, -1, 9, math.MaxInt64, math.MinInt64, int64(source.Uint64()) >> source.Intn(64)}[source.Intn(7)])
	case 4:
		return cas(key(), []string{"", "0", someValue(source)}[source.Intn(3)], someValue(source))
	case 5:
		return swap(key(), key())
	case 6:
		return join(several()...)
	case 7:
		return clearing(several()[:1]...)
	}
	if source.Intn(8) == 0 {
		return clearing(several()...)
	}
	return put(key(), []string{"", "0", someValue(source)}[source.Intn(3)])
}

func TestRandomCommandsBesideModel(t *testing.T) {
	source := rand.New(rand.NewSource(1))
	wrong := invalid()
	codes := map[api.Reply]int{}
	for range 200 {
		s, m := New(), &model{}
		keys := []string{"a", "b", "ab", "\x00", "\xff", longKey, "c"}[:1+source.Intn(7)]
		for range 60 {
			c := someCmd(source, keys)
			want := m.do(c)
			codes[api.Reply{Code: want.Code}]++
			if got := s.Do(c); got != want {
				t.Fatalf("%+v: %+v, want %+v", c, got, want)
			}
			if got := s.Do(wrong[source.Intn(len(wrong))]); got != bad {
				t.Fatalf("%+v", got)
			}
			holds(t, s, m.pairs())
			if source.Intn(10) == 0 {
				copied := s.Copy()
				s.Do(clearing(keys...))
				s = copied
			}
		}
		takes(t, string(s.Put(nil)), m.pairs(), "")
		if t.Failed() {
			return
		}
	}
	for code, n := range codes {
		if n < 500 {
			t.Errorf("too few of %+v: %d", code, n)
		}
	}
}

// No value is ever longer than MaxValue: what becomes one is New, a sum, or was one.
func TestNoValueIsTooLong(t *testing.T) {
	source := rand.New(rand.NewSource(2))
	s := New()
	keys := []string{"a", "b", "c", "d"}
	for range 5000 {
		s.Do(someCmd(source, keys))
		s.Do(put(keys[source.Intn(4)], strings.Repeat("v", source.Intn(80))))
		for _, key := range keys {
			if value, _ := s.Get(key); len(value) > api.MaxValue {
				t.Fatalf("a value of %d bytes", len(value))
			}
		}
		if _, e := Take(varint.NewReader(s.Put(nil), 1<<20)); e != api.OK {
			t.Fatalf("its own bytes are refused: %v", e)
		}
	}
}

// P9.4

// each are commands of each kind on these two keys, some on one of them twice, and some that are not valid.
func each(a, b string) []api.Cmd {
	return []api.Cmd{put(a, "9"), put(a, ""), get(a), del(a), add(a, 1), add(a, -1), cas(a, "1", "8"), cas(a, "", "8"), swap(a, b), swap(a, a), join(a, b, a), join(a), clearing(a, b), clearing(a, a), {Kind: api.Put, Keys: []string{a}}, {Client: 1, Kind: 9, Keys: []string{a, b}}}
}

func TestOtherKeysStayAsTheyWere(t *testing.T) {
	for _, first := range []values{nil, {"a": "1"}, {"b": "2"}, {"a": "1", "b": "2"}, {"a": "x", "b": ""}} {
		for _, rest := range []values{nil, {"c": "1"}, {"c": "", "d": "x", "aa": "1", "A": "2"}} {
			for _, c := range each("a", "b") {
				alone, both := stateOf(t, first), stateOf(t, first)
				for key, value := range rest {
					both.Do(put(key, value))
				}
				// What others have is not to be seen in the reply, and stays.
				if x, y := alone.Do(c), both.Do(c); x != y {
					t.Errorf("%+v: %+v, and beside %v: %+v", c, x, rest, y)
				}
				for key, value := range rest {
					if got, is := both.Get(key); got != value || !is {
						t.Errorf("%+v: %q became %q, %v", c, key, got, is)
					}
				}
				if got := both.Do(clearing("c", "d", "aa", "A")); got.Text != big.NewInt(int64(len(rest))).String() || !Same(alone, both) {
					t.Errorf("%+v beside %v: %q, alone %q", c, rest, both.Put(nil), alone.Put(nil))
				}
			}
		}
	}
}

// exchanges tells whether two commands, in both orders, return the same and leave the same.
func exchanges(s *State, a, b api.Cmd) bool {
	one, two := s.Copy(), s.Copy()
	oneA := one.Do(a)
	oneB := one.Do(b)
	twoB := two.Do(b)
	twoA := two.Do(a)
	return oneA == twoA && oneB == twoB && Same(one, two) && bytes.Equal(one.Put(nil), two.Put(nil))
}

func TestCommandsWithoutCommonKeysAreExchanged(t *testing.T) {
	for _, first := range []values{nil, {"a": "1", "c": "1"}, {"a": "1", "b": "2", "c": "3", "d": "4"}, {"b": "", "d": ""}, {"a": "1", "d": "2"}} {
		s := stateOf(t, first)
		for _, a := range each("a", "b") {
			for _, b := range each("c", "d") {
				if !exchanges(s, a, b) {
					t.Errorf("%+v and %+v on %v", a, b, first)
				}
			}
		}
	}
	// Those with a common key are not, or the test would tell nothing.
	if s := New(); exchanges(s, put("a", "1"), get("a")) || exchanges(s, put("a", "1"), put("a", "2")) || exchanges(s, add("a", 1), swap("b", "a")) {
		t.Error("commands with a common key are exchanged")
	}
}

func TestRandomCommandsWithoutCommonKeysAreExchanged(t *testing.T) {
	source := rand.New(rand.NewSource(4))
	keys := []string{"a", "b", "c", "d", "e", "f"}
	s := New()
	count := 0
	for range 30000 {
		a, b := someCmd(source, keys), someCmd(source, keys)
		common := slices.ContainsFunc(Touches(a), func(key string) bool { return slices.Contains(Touches(b), key) })
		if !common {
			count++
			if !exchanges(s, a, b) {
				t.Fatalf("%+v and %+v on %q", a, b, s.Put(nil))
			}
		}
		s.Do(a)
	}
	if count < 3000 {
		t.Errorf("too few: %d", count)
	}
}

// R2: nothing remains but in the state

func TestSameCallsSameResults(t *testing.T) {
	run := func() ([]api.Reply, string, []string) {
		source := rand.New(rand.NewSource(5))
		keys := []string{"c", "a", "d", "b"}
		s := New()
		var replies []api.Reply
		var touched []string
		for range 500 {
			c := someCmd(source, keys)
			replies = append(replies, s.Do(c))
			touched = append(touched, Touches(c)...)
		}
		return replies, string(s.Put(nil)), touched
	}
	replies, b, touched := run()
	for range 20 {
		x, y, z := run()
		if !slices.Equal(x, replies) || y != b || !reflect.DeepEqual(z, touched) {
			t.Fatal("another run has other results")
		}
	}
}
