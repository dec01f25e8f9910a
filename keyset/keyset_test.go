package keyset

import (
	"math"
	"math/rand"
	"reflect"
	"slices"
	"strconv"
	"strings"
	"testing"

	"quorate/api"
	"quorate/cmd"
)

const most = math.MaxUint32

// of is a command of a client that touches keys.
func of(client uint32, keys ...string) api.Cmd {
	return api.Cmd{Client: client, Seq: 1, Kind: api.Join, Keys: keys}
}

// batch is commands of the clients 1, 2, 3 and on, each with the keys that stand in its text, parted by spaces.
func batch(keys ...string) []api.Cmd {
	var l []api.Cmd
	for i, k := range keys {
		l = append(l, of(uint32(i+1), strings.Fields(k)...))
	}
	return l
}

// names are n keys of their own.
func names(n int) []string {
	var keys []string
	for i := range n {
		keys = append(keys, "k"+strconv.Itoa(i))
	}
	return keys
}

// touched is a command's keys, each once, by means of the test's own.
func touched(c api.Cmd) map[string]int {
	keys := map[string]int{}
	for _, key := range c.Keys {
		keys[key]++
	}
	return keys
}

// alone tells whether a command is lone, by means of the test's own.
func alone(c api.Cmd) bool { return len(touched(c)) > 4 }

// conflict tells whether two commands conflict, by means of the test's own.
func conflict(a, b api.Cmd) bool {
	if alone(a) || alone(b) || a.Client == b.Client {
		return true
	}
	for _, key := range a.Keys {
		if touched(b)[key] > 0 {
			return true
		}
	}
	return false
}

// wavesOf finds the waves by comparing every two commands.
func wavesOf(l []api.Cmd) []int {
	var waves []int
	for i, c := range l {
		wave := 0
		for j := range i {
			if conflict(l[j], c) {
				wave = max(wave, waves[j]+1)
			}
		}
		waves = append(waves, wave)
	}
	return waves
}

// groupsOf finds the groups of waves: each wave by a look at all commands.
func groupsOf(waves []int) [][]int {
	var groups [][]int
	for wave := 0; slices.Contains(waves, wave); wave++ {
		var group []int
		for i, w := range waves {
			if w == wave {
				group = append(group, i)
			}
		}
		groups = append(groups, group)
	}
	return groups
}

// sameGroups compares groups.
func sameGroups(a, b [][]int) bool { return slices.EqualFunc(a, b, slices.Equal) }

// has tells whether a batch has these waves, and the groups that belong to them.
func has(t testing.TB, l []api.Cmd, waves ...int) {
	t.Helper()
	if got := Waves(l); !slices.Equal(got, waves) {
		t.Errorf("the waves of %v: %v, want %v", l, got, waves)
	}
	if got := Groups(l); !sameGroups(got, groupsOf(waves)) {
		t.Errorf("the groups of %v: %v, want %v", l, got, groupsOf(waves))
	}
}

// P12.1: Lone

func TestLone(t *testing.T) {
	for i, x := range []struct {
		keys []string
		want bool
	}{
		{nil, false}, {[]string{}, false}, {[]string{"a"}, false}, {[]string{""}, false}, {names(3), false}, {names(api.Wave), false}, {names(api.Wave + 1), true}, {names(api.Wave + 2), true}, {names(api.MaxKeys), true}, {names(api.MaxKeys + 1), true}, {names(1000), true},
		// A key that stands there many times is touched once.
		{[]string{"a", "a", "a", "a", "a"}, false}, {[]string{"p", "q", "r", "s", "s", "p"}, false}, {append(names(api.Wave), names(api.Wave)...), false}, {append(names(api.Wave+1), names(api.Wave+1)...), true}, {slices.Repeat([]string{"a"}, 5000), false}, {append(slices.Repeat([]string{"a"}, 5000), "b", "c", "d"), false}, {append(slices.Repeat([]string{"a"}, 5000), "b", "c", "d", "e"), true},
		// The empty key is one like any other, and so is one of any bytes, or with a beginning that is another one.
		{[]string{"", "a", "b", "c"}, false}, {[]string{"", "a", "b", "c", "d"}, true}, {[]string{"a", "aa", "aaa", "aaaa", "aaaaa"}, true}, {[]string{"a", "aa", "aaa", "aaaa", "aaaa"}, false}, {[]string{"\x00", "\x00\x00", "\xff", "\xc3\x28", "\u00e9"}, true}, {[]string{"\xff", "\xfe", "\xff", "\xfe", "\x80"}, false}, {[]string{"a", "A", "a ", " a", "a\x00"}, true},
	} {
		if got := Lone(of(1, x.keys...)); got != x.want {
			t.Errorf("%d: %v", i, got)
		}
	}
}

func TestLoneOfEachKind(t *testing.T) {
	for kind := range 256 {
		for n := range 20 {
			// The kind takes part in nothing, nor does anything else but the keys.
			for _, c := range []api.Cmd{{}, {Client: 1, Seq: 2}, {Client: most, Seq: most, Old: "o", New: "n", N: math.MinInt64}, {Client: 3, New: strings.Repeat("v", 100)}} {
				c.Kind, c.Keys = uint8(kind), names(n)
				if got := Lone(c); got != (n > 4) {
					t.Errorf("%d keys of the kind %d: %v", n, kind, got)
				}
			}
		}
	}
}

func TestLoneOfCommandsThatAreRefused(t *testing.T) {
	longKey := strings.Repeat("k", api.MaxKey+1)
	for i, x := range []struct {
		c    api.Cmd
		want bool
	}{
		{api.Cmd{}, false}, {api.Cmd{Client: 1, Kind: api.Get}, false}, {api.Cmd{Client: 1, Kind: api.Get, Keys: names(4)}, false}, {api.Cmd{Client: 1, Kind: api.Get, Keys: names(5)}, true}, {api.Cmd{Client: 1, Kind: api.Swap, Keys: names(5)}, true}, {api.Cmd{Kind: api.Join, Keys: names(5)}, true}, {api.Cmd{Kind: api.Join, Keys: names(4)}, false}, {of(1, longKey), false}, {of(1, append(names(4), longKey)...), true}, {of(1, append(names(3), longKey)...), false}, {api.Cmd{Kind: 200, Keys: names(17)}, true},
	} {
		if cmd.Check(x.c) != api.ErrArg {
			t.Errorf("%d is no such command", i)
		}
		if got := Lone(x.c); got != x.want {
			t.Errorf("%d: %v", i, got)
		}
	}
}

// P12.1: Way

func TestWay(t *testing.T) {
	five := names(5)
	for i, x := range []struct {
		a, b api.Cmd
		want bool
	}{
		// Of one client, whatever they touch.
		{of(1, "a"), of(1, "b"), true}, {of(1), of(1), true}, {of(1, "a"), of(1), true}, {of(0, "a"), of(0, "b"), true}, {of(0), of(0), true}, {of(most, "a"), of(most, "b"), true}, {of(1, "a"), of(1, "a"), true},
		// A key in common, the first, the last, one within.
		{of(1, "a"), of(2, "a"), true}, {of(1, "a"), of(2, "b", "a"), true}, {of(1, "a", "b", "c", "d"), of(2, "e", "f", "g", "d"), true}, {of(1, "a", "b", "c", "d"), of(2, "a", "f", "g", "h"), true}, {of(1, "a", "b", "c", "d"), of(2, "e", "c", "g"), true}, {of(1, "d", "c", "b", "a"), of(2, "z", "a", "0"), true}, {of(1, "a", "a"), of(2, "b", "a", "a"), true}, {of(0, "a"), of(1, "a"), true},
		// None in common.
		{of(1, "a"), of(2, "b"), false}, {of(1), of(2), false}, {of(1, "a"), of(2), false}, {of(0), of(1), false}, {of(0, "a"), of(most, "b"), false}, {of(1, "a", "b", "c", "d"), of(2, "e", "f", "g", "h"), false}, {of(1, "a", "c", "e", "g"), of(2, "b", "d", "f", "h"), false}, {of(1, "a", "a", "a", "a", "a"), of(2, "b"), false}, {of(1, "p", "q", "r", "s", "s", "p"), of(2, "x"), false}, {of(1, append(names(4), names(4)...)...), of(2, "x"), false},
		// A lone one.
		{of(1, five...), of(2, "x"), true}, {of(1, five...), of(2), true}, {of(1, five...), of(2, "k0"), true}, {of(1, five...), of(2, "p", "q", "r", "s", "t"), true}, {of(1, five...), of(1, "x"), true}, {of(0, five...), of(1, "x"), true}, {of(1, five...), api.Cmd{}, true}, {of(1, names(1000)...), of(2), true},
		// Keys that are empty, of any bytes, and that begin with one another.
		{of(1, ""), of(2, ""), true}, {of(1, ""), of(2), false}, {of(1, ""), of(2, "a"), false}, {of(1, "", "a"), of(2, "", "b"), true}, {of(1, "a"), of(2, "aa"), false}, {of(1, "a"), of(2, "a\x00"), false}, {of(1, "ab"), of(2, "a", "b"), false}, {of(1, "a b"), of(2, "a", "b"), false}, {of(1, "\xff"), of(2, "\xff"), true}, {of(1, "\xff"), of(2, "\xfe"), false}, {of(1, "\xff"), of(2, "\ufffd"), false}, {of(1, "\x00"), of(2, ""), false}, {of(1, "a"), of(2, "A"), false}, {of(1, strings.Repeat("k", 33)), of(2, strings.Repeat("k", 32)), false}, {of(1, strings.Repeat("k", 33)), of(2, strings.Repeat("k", 33)), true},
	} {
		if got := Way(x.a, x.b); got != x.want {
			t.Errorf("%d: %v", i, got)
		}
		if got := Way(x.b, x.a); got != x.want {
			t.Errorf("%d, exchanged: %v", i, got)
		}
		// Each is of one client with itself.
		if !Way(x.a, x.a) || !Way(x.b, x.b) {
			t.Errorf("%d with itself", i)
		}
	}
}

func TestWayOfEachKind(t *testing.T) {
	for kind := range 256 {
		for other := range 256 {
			a := api.Cmd{Client: 1, Seq: 1, Kind: uint8(kind), Keys: []string{"a"}, New: "n"}
			b := api.Cmd{Client: 2, Seq: 1, Kind: uint8(other), Keys: []string{"b"}, Old: "o", N: 1}
			// Two that only read a key conflict, too.
			if Way(a, b) || Way(b, a) {
				t.Fatalf("%d and %d touch no key in common", kind, other)
			}
			b.Keys = []string{"b", "a"}
			if !Way(a, b) || !Way(b, a) {
				t.Fatalf("%d and %d touch a key in common", kind, other)
			}
			b.Keys, b.Client = nil, 1
			if !Way(a, b) || !Way(b, a) {
				t.Fatalf("%d and %d are of one client", kind, other)
			}
			b.Keys, b.Client = names(5), 2
			if !Way(a, b) || !Way(b, a) {
				t.Fatalf("%d and a lone one of the kind %d", kind, other)
			}
		}
	}
}

func TestWayOfCommandsThatDifferInTheRest(t *testing.T) {
	// Neither the number nor what is done makes a conflict, or ends one.
	a := api.Cmd{Client: 1, Seq: 7, Kind: api.Put, Keys: []string{"a"}, New: "x", N: 3}
	b := api.Cmd{Client: 2, Seq: 7, Kind: api.Put, Keys: []string{"b"}, New: "x", N: 3}
	if Way(a, b) {
		t.Error("they have all the rest in common")
	}
	b = api.Cmd{Client: 1, Seq: 8, Kind: api.Cas, Keys: []string{"b"}, Old: "y"}
	if !Way(a, b) {
		t.Error("they have the client in common alone")
	}
}

// P12.1, P12.2: Waves, Groups

func TestExamples(t *testing.T) {
	has(t, batch("a", "b", "a b", "c", "a"), 0, 0, 1, 0, 2)
	has(t, batch("a", "p q r s t", "b"), 0, 1, 2)
	if got := Groups(batch("a", "b", "a b", "c", "a")); !sameGroups(got, [][]int{{0, 1, 3}, {2}, {4}}) {
		t.Errorf("%v", got)
	}
	if got := Groups(batch("a", "p q r s t", "b")); !sameGroups(got, [][]int{{0}, {1}, {2}}) {
		t.Errorf("%v", got)
	}
}

func TestOfNoCommands(t *testing.T) {
	for _, l := range [][]api.Cmd{nil, {}, make([]api.Cmd, 0, 9)} {
		if w, g := Waves(l), Groups(l); len(w) != 0 || g != nil {
			t.Errorf("%v, %v", w, g)
		}
	}
}

func TestOfOneCommand(t *testing.T) {
	for _, c := range []api.Cmd{{}, of(0), of(1), of(1, ""), of(1, "a"), of(most, names(4)...), of(1, names(5)...), of(0, names(100)...), of(1, "a", "a"), {Kind: 255, Keys: []string{"a"}}} {
		has(t, []api.Cmd{c}, 0)
	}
}

func TestWaves(t *testing.T) {
	for _, x := range []struct {
		keys []string
		want []int
	}{
		{[]string{"a", "b", "c", "d"}, []int{0, 0, 0, 0}}, {[]string{"", "", ""}, []int{0, 0, 0}}, {[]string{"a", "a", "a"}, []int{0, 1, 2}}, {[]string{"a a", "a a", "b b b b b b"}, []int{0, 1, 0}},
		// A chain in which each conflicts with the one before it alone.
		{[]string{"a b", "b c", "c d", "d e", "e f"}, []int{0, 1, 2, 3, 4}}, {[]string{"b c", "a b", "d e", "c d", "e f"}, []int{0, 1, 0, 1, 1}},
		// One that conflicts with several of different waves: the greatest counts, wherever it stands.
		{[]string{"a", "a", "a", "b", "a b", "b"}, []int{0, 1, 2, 0, 3, 4}}, {[]string{"b", "a", "a", "a", "b a"}, []int{0, 0, 1, 2, 3}}, {[]string{"a", "a", "b", "c", "c", "c", "b c a", "a", "c", "b"}, []int{0, 1, 0, 0, 1, 2, 3, 4, 4, 4}}, {[]string{"d c b a", "d", "c", "c", "b", "b", "b", "a b c d"}, []int{0, 1, 1, 2, 1, 2, 3, 4}},
		// One may have a lesser wave than one that stands before it.
		{[]string{"a", "a", "b", "c", "b"}, []int{0, 1, 0, 0, 1}},
		// A lone one first, last, in the middle, and several.
		{[]string{"p q r s t"}, []int{0}}, {[]string{"p q r s t", "a", "b", "p"}, []int{0, 1, 1, 1}}, {[]string{"a", "b", "p q r s t"}, []int{0, 0, 1}}, {[]string{"a", "a", "b", "p q r s t"}, []int{0, 1, 0, 2}}, {[]string{"a", "a", "p q r s t", "a", "b", "a"}, []int{0, 1, 2, 3, 3, 4}}, {[]string{"p q r s t", "p q r s t", "p q r s t"}, []int{0, 1, 2}}, {[]string{"a", "p q r s t", "u v w x y", "p", "u", "a"}, []int{0, 1, 2, 3, 3, 3}}, {[]string{"a", "a", "p q r s t", "z", "u v w x y", "", "a"}, []int{0, 1, 2, 3, 4, 5, 5}}, {[]string{"a", "a", "a", "p q r s t", "b", "b", "u v w x y", "a", "a"}, []int{0, 1, 2, 3, 4, 5, 6, 7, 8}}, {[]string{"", "p q r s t", ""}, []int{0, 1, 2}},
		// As many keys as Wave, and fewer ones that stand there often.
		{[]string{"a", "p q r s", "b"}, []int{0, 0, 0}}, {[]string{"a", "p q r s s p", "x"}, []int{0, 0, 0}}, {[]string{"p q r s", "s", "q", "p r"}, []int{0, 1, 1, 1}},
		// Keys of which one is a beginning of the other.
		{[]string{"a", "aa", "aaa", "aa"}, []int{0, 0, 0, 1}},
	} {
		has(t, batch(x.keys...), x.want...)
	}
}

func TestWavesOfOneClient(t *testing.T) {
	has(t, []api.Cmd{of(7, "a"), of(7, "b"), of(7, "c"), of(7)}, 0, 1, 2, 3)
	has(t, []api.Cmd{of(0, "a"), of(0, "b"), of(0)}, 0, 1, 2)
	has(t, []api.Cmd{of(7, "a"), of(8, "b"), of(7, "c"), of(8, "d"), of(7, "e")}, 0, 0, 1, 1, 2)
	has(t, []api.Cmd{of(1, "a"), of(1, "b"), of(2, "b")}, 0, 1, 2)
	has(t, []api.Cmd{of(1, "a"), of(2, "a"), of(3, "a"), of(1, "b"), of(3, "c"), of(2)}, 0, 1, 2, 1, 3, 2)
	has(t, []api.Cmd{of(1, "a"), of(0, "b"), of(most, "c"), of(0, "d"), of(most, "e"), of(1)}, 0, 0, 0, 1, 1, 1)
	// The client of a lone one conflicts with it anyway, and with nothing besides.
	has(t, []api.Cmd{of(1, names(5)...), of(1, "a"), of(2, "b"), of(1, "c")}, 0, 1, 1, 2)
	has(t, []api.Cmd{of(1, "x"), of(1, names(5)...), of(2, "x"), of(1, "y")}, 0, 1, 2, 2)
	// A number or a client that is also a key's text makes no conflict.
	has(t, []api.Cmd{of(1, "2"), of(2, "1"), of(3, "\x01\x00\x00\x00"), of(4, "3")}, 0, 0, 0, 0)
}

func TestWavesOfKeysOfAnyBytes(t *testing.T) {
	has(t, []api.Cmd{of(1, ""), of(2, ""), of(3, "", "a"), of(4, "a"), of(5)}, 0, 1, 2, 3, 0)
	has(t, []api.Cmd{of(1, "\xff"), of(2, "\xfe"), of(3, "\ufffd"), of(4, "\xff"), of(5, "\x00"), of(6, "")}, 0, 0, 0, 1, 0, 0)
	has(t, []api.Cmd{of(1, "a b"), of(2, "a"), of(3, "b"), of(4, "a", "b")}, 0, 0, 0, 1)
	long := strings.Repeat("k", 1000)
	has(t, []api.Cmd{of(1, long), of(2, long+"k"), of(3, long)}, 0, 0, 1)
}

func TestWavesOfEachKind(t *testing.T) {
	for kind := range 256 {
		c := func(client uint32, keys ...string) api.Cmd {
			return api.Cmd{Client: client, Kind: uint8(kind), Keys: keys}
		}
		has(t, []api.Cmd{c(1, "a"), c(2, "b"), c(3, "a", "b"), c(4, "c"), c(5, "a")}, 0, 0, 1, 0, 2)
		has(t, []api.Cmd{c(1, "a"), c(2, names(5)...), c(3, "b")}, 0, 1, 2)
		has(t, []api.Cmd{c(1, "a"), c(1, "b"), c(0), c(0)}, 0, 1, 0, 1)
	}
}

func TestOfMoreCommandsThanABatchHas(t *testing.T) {
	// Nobody asks that a list be no longer than MaxBatch.
	const n = 100000
	var apart, one, lone []api.Cmd
	for i := range n {
		key := strconv.Itoa(i)
		apart = append(apart, of(uint32(i), key))
		one = append(one, of(uint32(i), "a", key))
		lone = append(lone, of(uint32(i), key, "a", "b", "c", "d"))
	}
	if g := Groups(apart); len(g) != 1 || len(g[0]) != n || !slices.IsSorted(g[0]) {
		t.Errorf("%d groups", len(g))
	}
	for _, l := range [][]api.Cmd{one, lone} {
		g := Groups(l)
		if len(g) != n {
			t.Fatalf("%d groups", len(g))
		}
		for i := range g {
			if !slices.Equal(g[i], []int{i}) {
				t.Fatalf("%d: %v", i, g[i])
			}
		}
	}
}

// P12.1 to P12.3, of batches at random

// picks are keys at random: few, so that they come again.
func picks(r *rand.Rand, few, most int) []string {
	var keys []string
	for range r.Intn(most + 1) {
		switch i := r.Intn(few); i {
		case 0:
			keys = append(keys, "")
		default:
			keys = append(keys, strings.Repeat("a", i))
		}
	}
	return keys
}

// anyBatch is commands at random.
func anyBatch(r *rand.Rand) []api.Cmd {
	few, most, clients := 1+r.Intn(16), 1+r.Intn(9), 1+r.Intn(12)
	var l []api.Cmd
	for range r.Intn(3 * api.MaxBatch) {
		l = append(l, api.Cmd{Client: uint32(r.Intn(clients)), Seq: r.Uint32(), Kind: uint8(r.Intn(10)), Keys: picks(r, few, most), N: r.Int63()})
	}
	return l
}

func TestRandomBatchesAgainstWavesByComparing(t *testing.T) {
	r := rand.New(rand.NewSource(12))
	counts, lones := map[int]int{}, 0
	for range 20000 {
		l := anyBatch(r)
		want := wavesOf(l)
		has(t, l, want...)
		counts[len(groupsOf(want))]++
		if slices.ContainsFunc(l, alone) {
			lones++
		}
		if t.Failed() {
			return
		}
	}
	if len(counts) < 10 || lones < 1000 {
		t.Errorf("too few kinds of batches: %v, %d with lone ones", counts, lones)
	}
}

func TestRandomCommandsLoneAndWay(t *testing.T) {
	r := rand.New(rand.NewSource(13))
	for range 5000 {
		l := anyBatch(r)
		for _, a := range l {
			if Lone(a) != alone(a) {
				t.Fatalf("Lone of %v: %v", a, Lone(a))
			}
			b := l[r.Intn(len(l))]
			if Way(a, b) != conflict(a, b) || Way(b, a) != Way(a, b) {
				t.Fatalf("Way of %v, %v: %v", a, b, Way(a, b))
			}
		}
	}
}

// partsHold tells whether the groups are what the properties ask, by Way and Lone.
func partsHold(t testing.TB, l []api.Cmd, waves []int, groups [][]int) {
	t.Helper()
	var seen []int
	for wave, group := range groups {
		if len(group) == 0 || !slices.IsSorted(group) {
			t.Errorf("the wave %d has %v", wave, group)
		}
		for k, i := range group {
			if waves[i] != wave {
				t.Errorf("%d stands in %d, its wave is %d", i, wave, waves[i])
			}
			if Lone(l[i]) && len(group) != 1 {
				t.Errorf("the lone %d shares its wave: %v", i, group)
			}
			for _, j := range group[k+1:] {
				if Way(l[i], l[j]) {
					t.Errorf("%d and %d are in one wave, and conflict", i, j)
				}
			}
		}
		seen = append(seen, group...)
	}
	slices.Sort(seen)
	for i := range l {
		if len(seen) != len(l) || seen[i] != i {
			t.Fatalf("not each index once: %v", seen)
		}
	}
}

// earlierHaveLesser tells whether of two commands that conflict the earlier one has the lesser wave.
func earlierHaveLesser(t testing.TB, l []api.Cmd, waves []int) {
	t.Helper()
	for j, b := range l {
		for i, a := range l[:j] {
			if Way(a, b) && waves[i] >= waves[j] {
				t.Errorf("%d and %d conflict, of the waves %d and %d", i, j, waves[i], waves[j])
			}
		}
	}
}

func TestProperties(t *testing.T) {
	r := rand.New(rand.NewSource(14))
	for range 5000 {
		l := anyBatch(r)
		waves, groups := Waves(l), Groups(l)
		if len(waves) != len(l) || len(l) > 0 && len(groups) != slices.Max(waves)+1 {
			t.Fatalf("%d commands, %d waves, %d groups", len(l), len(waves), len(groups))
		}
		partsHold(t, l, waves, groups)
		earlierHaveLesser(t, l, waves)
		if t.Failed() {
			return
		}
	}
}

func TestWavesOfABeginningAreTheBeginningOfTheWaves(t *testing.T) {
	r := rand.New(rand.NewSource(15))
	for range 500 {
		l := anyBatch(r)
		all := Waves(l)
		for n := range l {
			if got := Waves(l[:n]); !slices.Equal(got, all[:n]) {
				t.Fatalf("of %d commands: %v, of all: %v", n, got, all)
			}
		}
	}
}

// R2, R3

// deep is a copy of commands with their keys, and of those in the spare capacity, too.
func deep(l []api.Cmd) []api.Cmd {
	l = slices.Clone(l[:cap(l)])
	for i := range l {
		keys := l[i].Keys
		l[i].Keys = slices.Clone(keys[:cap(keys)])[:len(keys)]
	}
	return l
}

// spare is a batch with spare capacity, its keys too, which holds what would be seen.
func spare() []api.Cmd {
	keys := []string{"b", "a", "b", "spare", "spare"}
	l := []api.Cmd{of(1, "a"), of(2, "z", "y", "x", "w", "v"), {}, {}, of(4, "a")}
	l[2] = of(3, keys[:3]...)
	l[3] = of(9, "spare")
	return l[:3]
}

func TestArgumentsAreNotChanged(t *testing.T) {
	l := spare()
	before := deep(l)
	Waves(l)
	Groups(l)
	for _, a := range l {
		Lone(a)
		for _, b := range l {
			Way(a, b)
		}
	}
	if after := deep(l); !reflect.DeepEqual(after, before) {
		t.Errorf("%v, was %v", after, before)
	}
}

func TestArgumentsAreNotKept(t *testing.T) {
	l := spare()
	waves, groups := Waves(l), Groups(l)
	for i := range l[:cap(l)] {
		for k := range l[:cap(l)][i].Keys {
			l[:cap(l)][i].Keys[k] = "other"
		}
		l[:cap(l)][i] = of(1, "other")
	}
	if !slices.Equal(waves, []int{0, 1, 2}) || !sameGroups(groups, [][]int{{0}, {1}, {2}}) {
		t.Errorf("%v, %v", waves, groups)
	}
	has(t, l, 0, 1, 2)
	has(t, spare(), 0, 1, 2)
}

func TestResultsAreNewMemory(t *testing.T) {
	l := batch("a", "b", "a b", "c", "a", "p", "q", "r", "a")
	waves, groups := Waves(l), Groups(l)
	for i := range waves[:cap(waves)] {
		waves[:cap(waves)][i] = -1
	}
	for w := range groups {
		// The spare capacity of one group is no other group's.
		for _, g := range groups[w+1:] {
			before := slices.Clone(g)
			group := groups[w][:cap(groups[w])]
			for i := range group {
				group[i] = -1
			}
			groups[w] = append(groups[w], -2, -3)
			if !slices.Equal(g, before) {
				t.Errorf("the group %d shows through: %v, was %v", w, g, before)
			}
		}
	}
	has(t, l, 0, 0, 1, 0, 2, 0, 0, 0, 3)
}

func TestSameCallsSameResults(t *testing.T) {
	r := rand.New(rand.NewSource(16))
	for range 200 {
		l := anyBatch(r)
		waves, groups := Waves(l), Groups(l)
		for range 5 {
			// What was asked in between does not matter.
			Groups(anyBatch(r))
			again := deep(l)[:len(l)]
			if !slices.Equal(Waves(again), waves) || !sameGroups(Groups(again), groups) {
				t.Fatalf("another result of %v", l)
			}
		}
	}
}
