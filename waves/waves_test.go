package waves

import (
	"bytes"
	"math"
	"math/big"
	"math/rand"
	"reflect"
	"slices"
	"strconv"
	"strings"
	"testing"

	"quorate/api"
	"quorate/app"
	"quorate/cmd"
	"quorate/session"
)

const most = math.MaxUint32

var (
	none = api.Reply{Code: api.None}
	bad  = api.Reply{Code: api.Bad}
	old  = api.Reply{Code: api.Old}
)

// did is the reply to a command that was done.
func did(text string) api.Reply { return api.Reply{Text: text} }

// add is a client's command that adds 1.
func add(client, seq uint32, key string) api.Cmd {
	return api.Cmd{Client: client, Seq: seq, Kind: api.Add, Keys: []string{key}, N: 1}
}

// put is a client's command that gives a key a value.
func put(client, seq uint32, key, value string) api.Cmd {
	return api.Cmd{Client: client, Seq: seq, Kind: api.Put, Keys: []string{key}, New: value}
}

// get is a client's command that asks for a value.
func get(client, seq uint32, key string) api.Cmd {
	return api.Cmd{Client: client, Seq: seq, Kind: api.Get, Keys: []string{key}}
}

// join is a client's command that asks for the values of keys, which stand in a text, parted by spaces.
func join(client, seq uint32, keys string) api.Cmd {
	return api.Cmd{Client: client, Seq: seq, Kind: api.Join, Keys: strings.Fields(keys)}
}

// apart is n commands of which no two conflict, of the clients 1, 2, and on.
func apart(n int) []api.Cmd {
	var l []api.Cmd
	for i := range n {
		l = append(l, put(uint32(i+1), 1, "k"+strconv.Itoa(i), strconv.Itoa(i)))
	}
	return l
}

// before is an application that has executed some commands.
func before() *app.App {
	return app.Fold([]api.Cmd{put(1, 5, "a", "7"), put(2, 1, "b", "x"), get(3, 9, "z"), put(most, most, "c", "")})
}

// picker is a pick's type.
type picker = func(wave, done, n int) int

// always is the pick that has one result.
func always(result int) picker {
	return func(wave, done, n int) int { return result }
}

// last is the pick of the last one.
func last(wave, done, n int) int { return n - 1 }

// call is what a pick was asked.
type call struct{ wave, done, n int }

// recording is a pick that notes in a list what it was asked.
func recording(calls *[]call, pick picker) picker {
	return func(wave, done, n int) int {
		*calls = append(*calls, call{wave, done, n})
		return pick(wave, done, n)
	}
}

// by is a pick that has these results, one call after the other.
func by(results ...int) picker {
	return func(wave, done, n int) int {
		result := results[0]
		results = results[1:]
		return result
	}
}

// atRandom is a pick of any results.
func atRandom(seed int64) picker {
	r := rand.New(rand.NewSource(seed))
	return func(wave, done, n int) int {
		switch r.Intn(5) {
		case 0:
			return int(r.Uint64())
		case 1:
			return []int{math.MinInt, math.MinInt + 1, -1, 0, 1, math.MaxInt - 1, math.MaxInt, n, -n, n + 1, -n - 1}[r.Intn(11)]
		}
		return r.Intn(40) - 20
	}
}

// conflict tells whether two commands conflict, by means of the test's own.
func conflict(a, b api.Cmd) bool {
	count := func(keys []string) int { return len(slices.Compact(slices.Sorted(slices.Values(keys)))) }
	if a.Client == b.Client || count(a.Keys) > 4 || count(b.Keys) > 4 {
		return true
	}
	return slices.ContainsFunc(a.Keys, func(key string) bool { return slices.Contains(b.Keys, key) })
}

// wavesOf finds a batch's waves by comparing every two commands.
func wavesOf(l []api.Cmd) []int {
	waves := make([]int, len(l))
	for i, c := range l {
		for j := range i {
			if conflict(l[j], c) {
				waves[i] = max(waves[i], waves[j]+1)
			}
		}
	}
	return waves
}

// remainder is a number modulo n, by means of the library's great numbers.
func remainder(number, n int) int {
	return int(new(big.Int).Mod(big.NewInt(int64(number)), big.NewInt(int64(n))).Int64())
}

// orderOf is the order in which a batch is executed, and what the pick is asked, by means of the test's own: one goes from a list each time.
func orderOf(waves []int, pick picker) (order []int, calls []call) {
	if pick == nil {
		pick = always(0)
	}
	for wave := 0; slices.Contains(waves, wave); wave++ {
		var left []int
		for i, w := range waves {
			if w == wave {
				left = append(left, i)
			}
		}
		for done := 0; len(left) > 0; done++ {
			calls = append(calls, call{wave, done, len(left)})
			k := remainder(pick(wave, done, len(left)), len(left))
			order = append(order, left[k])
			left = slices.Delete(left, k, k+1)
		}
	}
	return order, calls
}

// oneByOne is what commands come to, one by one, on an application.
func oneByOne(a *app.App, l []api.Cmd) []Done {
	var d []Done
	for i, c := range l {
		reply, fresh := a.Do(c)
		d = append(d, Done{reply, fresh, 0, i})
	}
	return d
}

// same tells whether commands came to what they are to come to.
func same(t testing.TB, what string, got, want []Done) {
	t.Helper()
	if !slices.Equal(got, want) {
		t.Errorf("%s: %+v, want %+v", what, got, want)
	}
}

// equal tells whether two applications are.
func equal(t testing.TB, what string, a, b *app.App) {
	t.Helper()
	if !app.Same(a, b) || !bytes.Equal(a.Bytes(), b.Bytes()) {
		t.Errorf("%s: %q, want %q", what, a.Bytes(), b.Bytes())
	}
}

// runs executes a batch on a copy of an application, by Run, by One, and by means of the test's own. The pick is made anew for each. It returns what Run returned.
func runs(t testing.TB, a *app.App, l []api.Cmd, made func() picker) []Done {
	t.Helper()
	waves := wavesOf(l)
	order, wantCalls := orderOf(waves, made())
	byModel, byRun, byOne := a.Copy(), a.Copy(), a.Copy()
	want := oneByOne(byModel, l)
	same(t, "One", One(byOne, l), want)
	equal(t, "after One", byOne, byModel)
	for turn, i := range order {
		want[i].Wave, want[i].Turn = waves[i], turn
	}
	var calls []call
	pick := made()
	if pick != nil {
		pick = recording(&calls, pick)
	}
	got := Run(byRun, l, pick)
	same(t, "Run", got, want)
	equal(t, "after Run", byRun, byModel)
	if pick != nil && !slices.Equal(calls, wantCalls) {
		t.Errorf("the pick was asked %v, want %v", calls, wantCalls)
	}
	return got
}

// turnsOf are the turns of a batch's commands.
func turnsOf(d []Done) []int {
	var turns []int
	for _, x := range d {
		turns = append(turns, x.Turn)
	}
	return turns
}

// wavesIn are the waves of a batch's commands, as they were returned.
func wavesIn(d []Done) []int {
	var waves []int
	for _, x := range d {
		waves = append(waves, x.Wave)
	}
	return waves
}

// repliesOf are the replies to a batch's commands.
func repliesOf(d []Done) []api.Reply {
	var l []api.Reply
	for _, x := range d {
		l = append(l, x.Reply)
	}
	return l
}

// fixed is a maker of one pick that has no state.
func fixed(pick picker) func() picker { return func() picker { return pick } }

// P13.1, P13.2: the example; none; one

func TestExample(t *testing.T) {
	l := []api.Cmd{add(1, 1, "a"), add(2, 1, "b"), add(3, 1, "a")}
	a := app.New()
	same(t, "the last one", Run(a, l, last), []Done{{did("1"), true, 0, 1}, {did("1"), true, 0, 0}, {did("2"), true, 1, 2}})
	equal(t, "afterwards", a, app.Fold(l))
	same(t, "no pick", Run(app.New(), l, nil), []Done{{did("1"), true, 0, 0}, {did("1"), true, 0, 1}, {did("2"), true, 1, 2}})
	same(t, "One", One(app.New(), l), []Done{{did("1"), true, 0, 0}, {did("1"), true, 0, 1}, {did("2"), true, 0, 2}})
}

func TestWithoutApplication(t *testing.T) {
	asked := func(wave, done, n int) int { t.Error("the pick was asked"); return 0 }
	for _, l := range [][]api.Cmd{nil, {}, {{}}, apart(1), apart(9)} {
		for _, pick := range []picker{nil, asked} {
			if d := Run(nil, l, pick); len(d) != 0 {
				t.Errorf("Run: %+v", d)
			}
		}
		if d := One(nil, l); len(d) != 0 {
			t.Errorf("One: %+v", d)
		}
	}
}

func TestOfNoCommands(t *testing.T) {
	asked := func(wave, done, n int) int { t.Error("the pick was asked"); return 0 }
	for _, l := range [][]api.Cmd{nil, {}, apart(3)[:0]} {
		for _, a := range []*app.App{app.New(), before()} {
			was := a.Copy()
			if d := Run(a, l, nil); len(d) != 0 {
				t.Errorf("Run: %+v", d)
			}
			if d := Run(a, l, asked); len(d) != 0 {
				t.Errorf("Run with a pick: %+v", d)
			}
			if d := One(a, l); len(d) != 0 {
				t.Errorf("One: %+v", d)
			}
			equal(t, "afterwards", a, was)
		}
	}
}

func TestOfOneCommand(t *testing.T) {
	for _, result := range []int{0, 1, 2, -1, -2, 7, math.MinInt, math.MaxInt} {
		for _, c := range []api.Cmd{add(1, 1, "a"), get(1, 6, "a"), get(1, 5, "a"), get(1, 4, "a"), join(4, 0, "a b c d e f"), {}, {Client: 8}, {Client: 1, Kind: 200}} {
			var calls []call
			a, b := before(), before()
			reply, fresh := b.Do(c)
			same(t, "Run", Run(a, []api.Cmd{c}, recording(&calls, always(result))), []Done{{reply, fresh, 0, 0}})
			equal(t, "after Run", a, b)
			if !slices.Equal(calls, []call{{0, 0, 1}}) {
				t.Errorf("the pick was asked %v", calls)
			}
			a = before()
			same(t, "One", One(a, []api.Cmd{c}), []Done{{reply, fresh, 0, 0}})
			equal(t, "after One", a, b)
		}
	}
}

// P13.1: the pick

func TestWithoutPickTheFirstOne(t *testing.T) {
	for n := range 20 {
		d := runs(t, app.New(), apart(n), fixed(nil))
		same(t, "always 0", runs(t, app.New(), apart(n), fixed(always(0))), d)
		for i := range d {
			if d[i].Turn != i {
				t.Errorf("of %d, %d has the turn %d", n, i, d[i].Turn)
			}
		}
	}
	// The waves one behind the other, each in the order of the batch.
	l := []api.Cmd{add(1, 1, "a"), add(2, 1, "a"), add(3, 1, "b"), add(4, 1, "a"), add(5, 1, "b"), add(6, 1, "c")}
	d := runs(t, app.New(), l, fixed(nil))
	if !slices.Equal(wavesIn(d), []int{0, 1, 0, 2, 1, 0}) || !slices.Equal(turnsOf(d), []int{0, 3, 1, 5, 4, 2}) {
		t.Errorf("%+v", d)
	}
}

func TestPicks(t *testing.T) {
	for _, x := range []struct {
		what  string
		made  func() picker
		turns []int
	}{
		{"the last one", fixed(last), []int{4, 3, 2, 1, 0}},
		{"0", fixed(always(0)), []int{0, 1, 2, 3, 4}},
		// Among those left, in the order of the batch: of 0 1 2 3 4 it is 1, of 0 2 3 4 it is 2, and so on; of the last one, 0, that one.
		{"1", fixed(always(1)), []int{4, 0, 1, 2, 3}},
		{"2", fixed(always(2)), []int{3, 4, 0, 1, 2}},
		{"3", fixed(always(3)), []int{2, 4, 3, 0, 1}},
		{"4", fixed(always(4)), []int{1, 3, 2, 4, 0}},
		{"5", fixed(always(5)), []int{0, 4, 1, 3, 2}},
		{"7", fixed(always(7)), []int{4, 2, 0, 3, 1}},
		{"-1", fixed(always(-1)), []int{4, 3, 2, 1, 0}},
		{"-2", fixed(always(-2)), []int{3, 2, 1, 0, 4}},
		{"-5", fixed(always(-5)), []int{0, 4, 2, 3, 1}},
		{"-6", fixed(always(-6)), []int{2, 3, 1, 4, 0}},
		{"n", fixed(func(wave, done, n int) int { return n }), []int{0, 1, 2, 3, 4}},
		{"n + 1", fixed(func(wave, done, n int) int { return n + 1 }), []int{4, 0, 1, 2, 3}},
		{"3 n - 1", fixed(func(wave, done, n int) int { return 3*n - 1 }), []int{4, 3, 2, 1, 0}},
		{"-n", fixed(func(wave, done, n int) int { return -n }), []int{0, 1, 2, 3, 4}},
		{"-n - 1", fixed(func(wave, done, n int) int { return -n - 1 }), []int{4, 3, 2, 1, 0}},
		{"1 - n", fixed(func(wave, done, n int) int { return 1 - n }), []int{4, 0, 1, 2, 3}},
		{"done", fixed(func(wave, done, n int) int { return done }), []int{0, 4, 1, 3, 2}},
		{"n / 2", fixed(func(wave, done, n int) int { return n / 2 }), []int{4, 2, 0, 1, 3}},
		{"several", func() picker { return by(2, 0, 2, 1, 0) }, []int{1, 4, 0, 3, 2}},
	} {
		d := runs(t, app.New(), apart(5), x.made)
		if !slices.Equal(turnsOf(d), x.turns) {
			t.Errorf("%s: the turns %v, want %v", x.what, turnsOf(d), x.turns)
		}
	}
}

func TestPicksOfTheLeastAndTheGreatestNumber(t *testing.T) {
	// Of 3: 2^63 leaves 2, so that -2^63 is 1; 2^63 - 1 is 1. Of 2: 0, and 1.
	d := runs(t, app.New(), apart(3), fixed(always(math.MinInt)))
	if !slices.Equal(turnsOf(d), []int{1, 0, 2}) {
		t.Errorf("the least: %v", turnsOf(d))
	}
	d = runs(t, app.New(), apart(3), fixed(always(math.MaxInt)))
	if !slices.Equal(turnsOf(d), []int{2, 0, 1}) {
		t.Errorf("the greatest: %v", turnsOf(d))
	}
	for n := range 18 {
		for _, result := range []int{math.MinInt, math.MinInt + 1, math.MaxInt, math.MaxInt - 1, math.MinInt32, math.MaxInt32, math.MaxUint32, -math.MaxUint32} {
			runs(t, app.New(), apart(n), fixed(always(result)))
		}
	}
}

func TestPicksOfEachSmallNumber(t *testing.T) {
	for n := range 10 {
		for result := -3*n - 3; result <= 3*n+3; result++ {
			runs(t, app.New(), apart(n), fixed(always(result)))
		}
	}
}

func TestWhatThePickIsAsked(t *testing.T) {
	// The waves 0 1 0 2 0 1 3 4 4: three, two, one, a lone one, and two behind it.
	l := []api.Cmd{add(1, 1, "a"), add(2, 1, "a"), add(3, 1, "b"), add(4, 1, "a"), add(5, 1, "c"), add(6, 1, "c"), join(7, 1, "a b c d e"), add(8, 1, "x"), add(9, 1, "y")}
	want := []call{{0, 0, 3}, {0, 1, 2}, {0, 2, 1}, {1, 0, 2}, {1, 1, 1}, {2, 0, 1}, {3, 0, 1}, {4, 0, 2}, {4, 1, 1}}
	for _, pick := range []picker{always(0), last, always(1), always(-7), atRandom(1)} {
		// Whatever it answers, it is asked the same, on any application.
		for _, a := range []*app.App{app.New(), before()} {
			var calls []call
			d := Run(a, l, recording(&calls, pick))
			if !slices.Equal(calls, want) {
				t.Errorf("%v, want %v", calls, want)
			}
			if !slices.Equal(wavesIn(d), []int{0, 1, 0, 2, 0, 1, 3, 4, 4}) {
				t.Errorf("the waves %v", wavesIn(d))
			}
		}
	}
	// By the number of the wave: the first one in those that are even, the last one in the others.
	d := runs(t, app.New(), l, fixed(func(wave, done, n int) int { return -(wave % 2) }))
	if !slices.Equal(turnsOf(d), []int{0, 4, 1, 5, 2, 3, 6, 7, 8}) {
		t.Errorf("the turns %v", turnsOf(d))
	}
	// By how many of it were executed: the last one first.
	d = runs(t, app.New(), l, fixed(func(wave, done, n int) int { return []int{-1, 0, 0}[done] }))
	if !slices.Equal(turnsOf(d), []int{1, 4, 2, 5, 0, 3, 6, 8, 7}) {
		t.Errorf("the turns %v", turnsOf(d))
	}
}

func TestTheTurnsAreWhenTheyWereExecuted(t *testing.T) {
	l := append(apart(6), put(20, 1, "k1", "x"), put(21, 1, "k4", "y"), join(22, 1, "p q r s t"), put(23, 1, "z", "z"))
	for seed := range int64(50) {
		a := app.New()
		pick := atRandom(seed)
		// When it is asked, those that were executed have replies in the application.
		var executed [][]uint32
		d := Run(a, l, func(wave, done, n int) int {
			table := a.Table()
			var clients []uint32
			for _, c := range l {
				if _, what := table.Look(c.Client, c.Seq); what == session.Again {
					clients = append(clients, c.Client)
				}
			}
			executed = append(executed, clients)
			return pick(wave, done, n)
		})
		for turn, clients := range executed {
			var want []uint32
			for i, c := range l {
				if d[i].Turn < turn {
					want = append(want, c.Client)
				}
			}
			if !slices.Equal(clients, want) {
				t.Fatalf("ahead of the turn %d: %v, want %v", turn, clients, want)
			}
		}
	}
}

func TestAPickThatPanicsHasNoResult(t *testing.T) {
	l := append(apart(4), add(9, 1, "k2"))
	for _, pick := range []picker{
		func(wave, done, n int) int { panic("no") },
		func(wave, done, n int) int { panic(nil) },
		func(wave, done, n int) int { return []int{}[done] },
		func(wave, done, n int) int { return n / wave },
	} {
		a := app.New()
		d := Run(a, l, pick)
		same(t, "a pick that panics", d, Run(app.New(), l, nil))
		equal(t, "afterwards", a, app.Fold(l))
	}
	// One that panics once in a while counts where it does not.
	d := Run(app.New(), apart(4), func(wave, done, n int) int {
		if done == 1 {
			panic("no")
		}
		return n - 1
	})
	if !slices.Equal(turnsOf(d), []int{1, 3, 2, 0}) {
		t.Errorf("the turns %v", turnsOf(d))
	}
}

func TestAPickThatWritesIntoTheBatch(t *testing.T) {
	l := append(apart(4), add(9, 1, "k2"), join(10, 1, "k0 k1 k2 k3 k4"))
	want := Run(app.New(), l, last)
	written := deep(l)
	a := app.New()
	d := Run(a, written, func(wave, done, n int) int {
		for i := range written {
			for k := range written[i].Keys {
				written[i].Keys[k] = "written"
			}
			written[i] = put(77, uint32(done), "written", "written")
		}
		return n - 1
	})
	same(t, "written into", d, want)
	equal(t, "afterwards", a, app.Fold(l))
}

func TestAPickThatExecutesOtherBatches(t *testing.T) {
	l := append(apart(4), add(9, 1, "k2"))
	other := before()
	a := app.New()
	d := Run(a, l, func(wave, done, n int) int {
		Run(other, apart(3), func(wave, done, n int) int { return len(One(app.New(), apart(5))) })
		return n - 1
	})
	same(t, "with others in between", d, Run(app.New(), l, last))
	equal(t, "afterwards", a, app.Fold(l))
}

// P13.1, P13.2: replies, waves and turns

func TestRepliesStandInTheOrderOfTheBatch(t *testing.T) {
	l := []api.Cmd{put(1, 6, "a", "1"), get(2, 2, "b"), get(4, 1, "n"), add(5, 1, "c"), get(6, 1, "a"), join(7, 1, "b c"), {Client: 8, Seq: 1, Kind: api.Del, Keys: []string{"b"}}}
	want := []api.Reply{did(""), did("x"), none, bad, did("1"), did("x,,"), did("x")}
	for _, pick := range []picker{nil, last, always(1), atRandom(3)} {
		a := before()
		if got := repliesOf(Run(a, l, pick)); !slices.Equal(got, want) {
			t.Errorf("%+v, want %+v", got, want)
		}
		if got := a.Count(); got != 4+7 {
			t.Errorf("the count %d", got)
		}
	}
	if got := repliesOf(One(before(), l)); !slices.Equal(got, want) {
		t.Errorf("One: %+v, want %+v", got, want)
	}
}

func TestOne(t *testing.T) {
	a := before()
	l := []api.Cmd{get(2, 2, "b"), get(2, 2, "b"), get(1, 4, "a"), get(0, 1, "a"), {Client: 7}, put(2, 3, "b", "y"), get(9, 0, "b"), join(9, 1, "a b c d e")}
	want := []Done{{did("x"), true, 0, 0}, {did("x"), false, 0, 1}, {old, false, 0, 2}, {bad, false, 0, 3}, {bad, true, 0, 4}, {did(""), true, 0, 5}, {did("y"), true, 0, 6}, {did("7,y,,,,"), true, 0, 7}}
	same(t, "One", One(a, l), want)
	if a.Count() != 4+5 {
		t.Errorf("the count %d", a.Count())
	}
	// Once more: what a client has that has not proceeded is returned again.
	want = []Done{{old, false, 0, 0}, {old, false, 0, 1}, {old, false, 0, 2}, {bad, false, 0, 3}, {bad, false, 0, 4}, {did(""), false, 0, 5}, {old, false, 0, 6}, {did("7,y,,,,"), false, 0, 7}}
	same(t, "One again", One(a, l), want)
	if a.Count() != 4+5 {
		t.Errorf("the count %d", a.Count())
	}
}

func TestLoneCommands(t *testing.T) {
	lone := func(client uint32) api.Cmd { return join(client, 1, "a b c d e") }
	for _, x := range []struct {
		l     []api.Cmd
		waves []int
		turns []int // by the pick of the last one
	}{
		{[]api.Cmd{lone(1)}, []int{0}, []int{0}},
		{[]api.Cmd{lone(1), lone(2), lone(3)}, []int{0, 1, 2}, []int{0, 1, 2}},
		{[]api.Cmd{add(1, 1, "x"), add(2, 1, "y"), lone(3), add(4, 1, "x"), add(5, 1, "z")}, []int{0, 0, 1, 2, 2}, []int{1, 0, 2, 4, 3}},
		{[]api.Cmd{lone(3), add(4, 1, "x"), add(5, 1, "z")}, []int{0, 1, 1}, []int{0, 2, 1}},
		// As many keys as Wave share a wave, and fewer that stand there often.
		{[]api.Cmd{join(1, 1, "a b c d"), add(2, 1, "x"), join(3, 1, "p q p q p q")}, []int{0, 0, 0}, []int{2, 1, 0}},
	} {
		d := runs(t, before(), x.l, fixed(last))
		if !slices.Equal(wavesIn(d), x.waves) || !slices.Equal(turnsOf(d), x.turns) {
			t.Errorf("the waves %v, the turns %v, want %v, %v", wavesIn(d), turnsOf(d), x.waves, x.turns)
		}
	}
}

func TestCommandsOfOneClient(t *testing.T) {
	for _, x := range []struct {
		l    []api.Cmd
		want []Done // by the pick of the last one
	}{
		// Two of one client, of keys of their own, and one of another.
		{[]api.Cmd{add(1, 1, "a"), add(1, 2, "b"), add(2, 1, "c")}, []Done{{did("1"), true, 0, 1}, {did("1"), true, 1, 2}, {did("1"), true, 0, 0}}},
		// The same one twice, three times.
		{[]api.Cmd{add(1, 1, "a"), add(1, 1, "a"), add(2, 1, "b")}, []Done{{did("1"), true, 0, 1}, {did("1"), false, 1, 2}, {did("1"), true, 0, 0}}},
		{[]api.Cmd{add(1, 1, "a"), add(1, 1, "a"), add(1, 1, "a"), add(2, 1, "a")}, []Done{{did("1"), true, 0, 0}, {did("1"), false, 1, 1}, {did("1"), false, 2, 2}, {did("2"), true, 3, 3}}},
		// The same number with other keys is the same command, though it waits for these.
		{[]api.Cmd{add(1, 1, "a"), add(2, 1, "b"), put(1, 1, "b", "x"), get(3, 1, "b")}, []Done{{did("1"), true, 0, 1}, {did("1"), true, 0, 0}, {did("1"), false, 1, 2}, {did("1"), true, 2, 3}}},
		// An older one behind a newer one.
		{[]api.Cmd{add(1, 2, "a"), add(1, 1, "a"), add(2, 1, "b")}, []Done{{did("1"), true, 0, 1}, {old, false, 1, 2}, {did("1"), true, 0, 0}}},
		{[]api.Cmd{add(1, 1, "a"), add(1, 3, "a"), add(1, 1, "a"), add(1, 3, "a"), add(1, 2, "a")}, []Done{{did("1"), true, 0, 0}, {did("2"), true, 1, 1}, {old, false, 2, 2}, {did("2"), false, 3, 3}, {old, false, 4, 4}}},
	} {
		got := runs(t, app.New(), x.l, fixed(last))
		same(t, "the last one", got, x.want)
	}
}

func TestCommandsOfClientsThatWereAnsweredBefore(t *testing.T) {
	a := before()
	l := []api.Cmd{get(1, 5, "b"), get(1, 4, "a"), get(2, 2, "b"), get(3, 8, "a"), get(3, 9, "z"), get(most, most, "q"), add(4, 1, "a")}
	// The first and the third touch b; the second, the fourth and the last one a.
	want := []Done{{did(""), false, 0, 1}, {old, false, 1, 3}, {did("x"), true, 1, 2}, {old, false, 2, 4}, {none, false, 3, 6}, {did(""), false, 0, 0}, {did("8"), true, 3, 5}}
	same(t, "the last one", runs(t, a, l, fixed(last)), want)
}

func TestCommandsThatAreRefused(t *testing.T) {
	long := strings.Repeat("k", api.MaxKey+1)
	refused := []api.Cmd{
		{Client: 1}, {Client: 2, Kind: 200, Keys: []string{"a"}}, {Client: 3, Kind: api.Get}, {Client: 4, Kind: api.Get, Keys: []string{"a", "b"}}, {Client: 5, Kind: api.Swap, Keys: []string{"c"}},
		{Client: 6, Kind: api.Get, Keys: []string{""}}, {Client: 7, Kind: api.Get, Keys: []string{long}}, {Client: 8, Kind: api.Put, Keys: []string{"d"}, New: strings.Repeat("v", api.MaxValue+1)}, {Client: 9, Kind: api.Get, Keys: []string{"e"}, N: 1}, {Client: 10, Kind: api.Join, Keys: make([]string, api.MaxKeys+1)},
	}
	for _, c := range refused {
		if cmd.Check(c) != api.ErrArg {
			t.Fatalf("%+v is one that may be", c)
		}
	}
	for _, made := range []func() picker{fixed(nil), fixed(last), fixed(always(-3)), func() picker { return atRandom(5) }} {
		// Each is fresh, counts, and is kept, though it is Bad.
		d := runs(t, app.New(), refused, made)
		for i, x := range d {
			if x.Reply != bad || !x.Fresh {
				t.Errorf("%d: %+v", i, x)
			}
		}
		mixed := append(slices.Clone(refused), add(20, 1, "a"), add(21, 1, "c"), api.Cmd{Client: 20, Seq: 2, Kind: api.Del, Keys: []string{"a", "c"}}, add(22, 1, "a"))
		a := app.New()
		d = Run(a, mixed, made())
		if got := repliesOf(d)[len(refused):]; !slices.Equal(got, []api.Reply{did("1"), did("1"), bad, did("2")}) {
			t.Errorf("%+v", got)
		}
		if a.Count() != uint64(len(mixed)) {
			t.Errorf("the count %d", a.Count())
		}
		runs(t, before(), mixed, made)
	}
	// They conflict by their keys and clients like any others: a key in common, and more keys than Wave.
	d := runs(t, app.New(), []api.Cmd{{Client: 1, Kind: 99, Keys: []string{"a"}}, add(2, 1, "a"), {Client: 3, Kind: 99, Keys: strings.Fields("p q r s t")}, add(4, 1, "b")}, fixed(nil))
	same(t, "waves of the refused", d, []Done{{bad, true, 0, 0}, {did("1"), true, 1, 1}, {bad, true, 2, 2}, {did("1"), true, 3, 3}})
}

func TestCommandsOfTheClient0(t *testing.T) {
	l := []api.Cmd{put(0, 1, "a", "x"), add(1, 6, "a"), put(0, 2, "b", "y"), {}, get(4, 1, "b")}
	// Two of the client 0 are of one client, and in no wave together.
	want := []Done{{bad, false, 0, 0}, {did("8"), true, 1, 2}, {bad, false, 1, 1}, {bad, false, 2, 4}, {did("x"), true, 2, 3}}
	d := runs(t, before(), l, fixed(last))
	same(t, "the last one", d, want)
	a := before()
	Run(a, []api.Cmd{{}, put(0, 1, "a", "x"), put(0, most, "b", "x")}, nil)
	equal(t, "of the client 0 alone", a, before())
}

func TestBatchesOneBehindTheOther(t *testing.T) {
	byRun, byOne := app.New(), app.New()
	for seed := range int64(200) {
		l := anyBatch(rand.New(rand.NewSource(seed)))
		runs(t, byRun, l, func() picker { return atRandom(seed) })
		d, e := Run(byRun, l, atRandom(seed)), One(byOne, l)
		if !slices.Equal(repliesOf(d), repliesOf(e)) {
			t.Fatalf("%d: %+v, %+v", seed, d, e)
		}
		equal(t, "behind the others", byRun, byOne)
		if t.Failed() {
			return
		}
	}
}

// P13.3

// anyCmd is a command at random: of few clients, numbers and keys, so that they come again; some are refused.
func anyCmd(r *rand.Rand, clients, keys int) api.Cmd {
	c := api.Cmd{Client: uint32(r.Intn(clients + 1)), Seq: uint32(r.Intn(6)), Kind: uint8(1 + r.Intn(8))}
	n := 1
	switch c.Kind {
	case api.Swap:
		n = 2
	case api.Join, api.Clear:
		n = 1 + r.Intn(6)
	case api.Put:
		c.New = []string{"1", "x", "", "-5", strconv.Itoa(r.Intn(99))}[r.Intn(5)]
	case api.Add:
		c.N = []int64{1, -1, 7, math.MaxInt64}[r.Intn(4)]
	case api.Cas:
		c.Old, c.New = []string{"1", "x", ""}[r.Intn(3)], "2"
	}
	if r.Intn(12) == 0 {
		c.Kind = uint8(r.Intn(12))
		n = r.Intn(7)
	}
	for range n {
		c.Keys = append(c.Keys, string(rune('a'+r.Intn(keys))))
	}
	return c
}

// anyBatch is commands at random.
func anyBatch(r *rand.Rand) []api.Cmd {
	clients, keys := 1+r.Intn(15), 1+r.Intn(20)
	var l []api.Cmd
	for range r.Intn(2*api.MaxBatch + 1) {
		if len(l) > 0 && r.Intn(8) == 0 {
			l = append(l, l[r.Intn(len(l))])
			continue
		}
		l = append(l, anyCmd(r, clients, keys))
	}
	return l
}

func TestRandomBatchesWithManyPicks(t *testing.T) {
	r := rand.New(rand.NewSource(13))
	groups, moved, stale := map[int]int{}, 0, 0
	for round := range 1500 {
		a := app.Fold(anyBatch(r))
		if round%3 == 0 {
			a = app.New()
		}
		l := anyBatch(r)
		first := runs(t, a, l, fixed(nil))
		for k := range int64(6) {
			seed := r.Int63()
			made := []func() picker{fixed(last), fixed(always(int(seed))), fixed(always(-int(seed))), func() picker { return atRandom(seed) }}[k%4]
			d := runs(t, a, l, made)
			if !slices.Equal(turnsOf(d), turnsOf(first)) {
				moved++
			}
		}
		for _, x := range first {
			groups[x.Wave]++
			if !x.Fresh {
				stale++
			}
		}
		if t.Failed() {
			return
		}
	}
	if len(groups) < 8 || moved < 1000 || stale < 1000 {
		t.Errorf("too few kinds of batches: %v waves, %d other orders, %d not fresh", groups, moved, stale)
	}
}

// permutations visits the results of picks that lead to each order of n.
func permutations(n int, yield func(results []int)) {
	results := make([]int, n)
	var at func(i int)
	at = func(i int) {
		if i == n {
			yield(slices.Clone(results))
			return
		}
		for k := range n - i {
			results[i] = k
			at(i + 1)
		}
	}
	at(0)
}

func TestEachOrderOfAWave(t *testing.T) {
	l := []api.Cmd{put(1, 6, "a", "1"), add(2, 2, "n"), {Client: 3, Seq: 10, Kind: api.Swap, Keys: []string{"b", "q"}}, get(4, 1, "c"), {}, {Client: 9, Seq: 1, Kind: api.Clear, Keys: []string{"x", "y"}}}
	orders := map[string]int{}
	permutations(len(l), func(results []int) {
		d := runs(t, before(), l, func() picker { return by(results...) })
		var order []byte
		for _, x := range d {
			order = append(order, byte('0'+x.Turn))
		}
		orders[string(order)]++
	})
	if len(orders) != 720 {
		t.Errorf("%d orders", len(orders))
	}
}

func TestEachTurnOnceAndLesserWavesFirst(t *testing.T) {
	r := rand.New(rand.NewSource(14))
	for range 3000 {
		l := anyBatch(r)
		d := Run(app.New(), l, atRandom(r.Int63()))
		if len(d) != len(l) {
			t.Fatalf("%d of %d", len(d), len(l))
		}
		turns := turnsOf(d)
		slices.Sort(turns)
		for i := range turns {
			if turns[i] != i {
				t.Fatalf("not each turn once: %v", turnsOf(d))
			}
		}
		for i := range d {
			for j := range d {
				if d[i].Wave < d[j].Wave && d[i].Turn >= d[j].Turn {
					t.Fatalf("%+v, %+v", d[i], d[j])
				}
				// Of two that conflict, the earlier one comes first.
				if i < j && conflict(l[i], l[j]) && d[i].Turn >= d[j].Turn {
					t.Fatalf("%d and %d conflict: %+v, %+v", i, j, d[i], d[j])
				}
			}
		}
	}
}

func TestOfMoreCommandsThanABatchHas(t *testing.T) {
	const n = 10000
	l := apart(n)
	middle := func(wave, done, n int) int { return n / 2 }
	for _, pick := range []picker{nil, last, middle, always(math.MinInt)} {
		a := app.New()
		d := Run(a, l, pick)
		turns := turnsOf(d)
		slices.Sort(turns)
		if len(d) != n || turns[0] != 0 || turns[n-1] != n-1 || len(slices.Compact(turns)) != n || a.Count() != n {
			t.Errorf("%d results, the count %d", len(d), a.Count())
		}
	}
	var chain []api.Cmd
	for i := range uint32(n) {
		chain = append(chain, add(1, i, "a"))
	}
	a := app.New()
	d := Run(a, chain, last)
	if x := d[n-1]; x != (Done{did(strconv.Itoa(n)), true, n - 1, n - 1}) {
		t.Errorf("%+v", x)
	}
}

// R1 to R3

func TestObjectsThatNoCallMade(t *testing.T) {
	// Nothing is promised of one, but that it does not panic.
	Run(&app.App{}, append(apart(3), api.Cmd{}), last)
	One(&app.App{}, append(apart(3), api.Cmd{}))
	Run(new(app.App), apart(3), func(wave, done, n int) int { panic(n) })
}

// deep is a copy of commands with their keys, and of those in the spare capacity, too.
func deep(l []api.Cmd) []api.Cmd {
	n := len(l)
	l = slices.Clone(l[:cap(l)])
	for i := range l {
		keys := l[i].Keys
		l[i].Keys = slices.Clone(keys[:cap(keys)])[:len(keys)]
	}
	return l[:n]
}

// whole is commands with those in their spare capacity, and their keys with theirs.
func whole(l []api.Cmd) []api.Cmd {
	l = slices.Clone(l[:cap(l)])
	for i := range l {
		l[i].Keys = l[i].Keys[:cap(l[i].Keys)]
	}
	return l
}

// spare is a batch with spare capacity, its keys too, which holds what would be seen.
func spare() []api.Cmd {
	keys := []string{"b", "a", "b", "spare", "spare"}
	l := []api.Cmd{add(1, 1, "a"), join(2, 1, "z y x w v"), {}, add(5, 1, "c"), {}, add(4, 1, "a")}
	l[2] = api.Cmd{Client: 3, Seq: 1, Kind: api.Join, Keys: keys[:3]}
	l[4] = api.Cmd{Client: 6, Kind: api.Clear, Keys: keys[3:4]}
	return l[:4]
}

func TestArgumentsAreNotChanged(t *testing.T) {
	for _, pick := range []picker{nil, last, always(1), func(wave, done, n int) int { panic("no") }} {
		l := spare()
		was := deep(whole(l))
		Run(app.New(), l, pick)
		Run(before(), l, pick)
		Run(nil, l, pick)
		One(before(), l)
		One(nil, l)
		if is := whole(l); !reflect.DeepEqual(is, was) {
			t.Errorf("%+v, was %+v", is, was)
		}
	}
}

// overwrite writes into all of a batch that a caller can reach.
func overwrite(l []api.Cmd) {
	l = l[:cap(l)]
	for i := range l {
		keys := l[i].Keys[:cap(l[i].Keys)]
		for k := range keys {
			keys[k] = "written"
		}
		l[i] = put(7, 7, "written", "written")
	}
}

func TestArgumentsAreNotKept(t *testing.T) {
	l := spare()
	a, b := app.New(), app.New()
	d, e := Run(a, l, last), One(b, l)
	x, y := slices.Clone(d), slices.Clone(e)
	overwrite(l)
	same(t, "Run", d, x)
	same(t, "One", e, y)
	equal(t, "after Run", a, app.Fold(spare()))
	equal(t, "after One", b, app.Fold(spare()))
	// The application is as it would be, whatever is executed next.
	Run(a, l, nil)
	One(b, l)
	want := app.Fold(append(spare(), l...))
	equal(t, "after both", a, want)
	equal(t, "after both, by One", b, want)
}

func TestThePickIsNotKept(t *testing.T) {
	a, asked := app.New(), 0
	Run(a, apart(5), func(wave, done, n int) int { asked++; return n - 1 })
	Run(a, apart(5), nil)
	One(a, apart(5))
	if asked != 5 {
		t.Errorf("it was asked %d times", asked)
	}
}

func TestResultsAreNewMemory(t *testing.T) {
	a, l := before(), spare()
	after := a.Copy()
	want := One(after, l)
	for range 3 {
		// What was written into one result is not seen in the next one, nor in the application.
		x := before()
		d, e := Run(x, l, nil), One(before(), l)
		if !slices.Equal(repliesOf(d), repliesOf(want)) || !slices.Equal(e, want) {
			t.Errorf("%+v, %+v, want %+v", d, e, want)
		}
		for _, out := range [][]Done{d[:cap(d)], e[:cap(e)]} {
			for i := range out {
				out[i] = Done{bad, true, -1, -1}
			}
		}
		equal(t, "afterwards", x, after)
		d = Run(x, l, nil)
		for i := range d {
			if d[i].Wave < 0 || d[i].Fresh || d[i].Reply != want[i].Reply {
				t.Errorf("again: %+v, want %+v", d[i], want[i])
			}
		}
	}
	same(t, "the earlier one", want, One(a, l))
}

func TestSameCallsSameResults(t *testing.T) {
	r := rand.New(rand.NewSource(16))
	for range 200 {
		l, seed := anyBatch(r), r.Int63()
		first := app.New()
		want := Run(first, l, atRandom(seed))
		for range 4 {
			// What was executed in between, on others, does not matter.
			Run(before(), anyBatch(r), atRandom(seed+1))
			a := app.New()
			same(t, "again", Run(a, deep(l), atRandom(seed)), want)
			equal(t, "afterwards", a, first)
		}
	}
}

func TestOnlyTheGivenApplicationIsChanged(t *testing.T) {
	a := before()
	b := a.Copy()
	was := b.Bytes()
	Run(a, spare(), last)
	One(a, apart(9))
	if !bytes.Equal(b.Bytes(), was) || app.Same(a, b) {
		t.Errorf("the copy became %q, was %q", b.Bytes(), was)
	}
}
