package cmd

import (
	"bytes"
	"encoding/binary"
	"math"
	"math/rand"
	"reflect"
	"slices"
	"strings"
	"testing"

	"quorate/api"
	"quorate/varint"
)

// kinds are all kinds, and what there is none of behind them and ahead.
var kinds = []uint8{0, api.Put, api.Get, api.Del, api.Add, api.Cas, api.Swap, api.Join, api.Clear, 9, 10, 127, 128, 255}

// encoded is a command's bytes, by means of its own.
func encoded(c api.Cmd) string {
	text := func(b []byte, s string) []byte {
		return append(binary.AppendUvarint(b, uint64(len(s))), s...)
	}
	b := binary.AppendUvarint(nil, uint64(c.Client))
	b = binary.AppendUvarint(b, uint64(c.Seq))
	b = binary.AppendUvarint(b, uint64(c.Kind))
	b = binary.AppendUvarint(b, uint64(len(c.Keys)))
	for _, key := range c.Keys {
		b = text(b, key)
	}
	return string(binary.AppendVarint(text(text(b, c.Old), c.New), c.N))
}

// encodedBatch is a batch's bytes, by means of its own.
func encodedBatch(l []api.Cmd) string {
	var all strings.Builder
	all.Write(binary.AppendUvarint(nil, uint64(len(l))))
	for _, c := range l {
		all.WriteString(encoded(c))
	}
	return all.String()
}

// equal tells whether two commands have the same fields; no keys are no keys, nil or empty.
func equal(a, b api.Cmd) bool {
	if len(a.Keys)+len(b.Keys) == 0 {
		a.Keys, b.Keys = nil, nil
	}
	return reflect.DeepEqual(a, b)
}

// may tells whether a command is valid, by the chapter's words one by one.
func may(c api.Cmd) bool {
	least, most := 1, 1
	switch c.Kind {
	case api.Put, api.Get, api.Del, api.Add, api.Cas:
	case api.Swap:
		least, most = 2, 2
	case api.Join, api.Clear:
		most = 16
	default:
		return false
	}
	if len(c.Keys) < least || len(c.Keys) > most {
		return false
	}
	for _, key := range c.Keys {
		if len(key) < 1 || len(key) > 32 {
			return false
		}
	}
	switch {
	case c.Client == 0, len(c.Old) > 64, len(c.New) > 64:
		return false
	case c.Kind != api.Cas && len(c.Old) > 0:
		return false
	case c.Kind != api.Put && c.Kind != api.Cas && len(c.New) > 0:
		return false
	}
	return c.N == 0 || c.Kind == api.Add
}

// someKeys are n keys that differ.
func someKeys(n int) []string {
	var keys []string
	for i := range n {
		keys = append(keys, "k"+strings.Repeat("\x00", i/256)+string([]byte{byte(i)}))
	}
	return keys
}

// fitting is a command of a kind that may be, as far as there is one; another kind gets one key.
func fitting(kind uint8) api.Cmd {
	c := api.Cmd{Client: 1, Seq: 1, Kind: kind, Keys: someKeys(1)}
	if kind == api.Swap {
		c.Keys = someKeys(2)
	}
	return c
}

// valid are commands of each kind that may be, with the edges of what may be.
func valid() []api.Cmd {
	long, key := strings.Repeat("v", api.MaxValue), strings.Repeat("k", api.MaxKey)
	l := []api.Cmd{
		{Client: 1, Seq: 1, Kind: api.Put, Keys: []string{"k"}, New: "x"},
		{Client: 1, Kind: api.Put, Keys: []string{"k"}},
		{Client: 300, Seq: 2, Kind: api.Put, Keys: []string{key}, New: long},
		{Client: 127, Seq: 128, Kind: api.Get, Keys: []string{"\x00"}},
		{Client: math.MaxUint32, Seq: math.MaxUint32, Kind: api.Del, Keys: []string{"\xff\x80"}},
		{Client: 2, Seq: 5, Kind: api.Add, Keys: []string{"a"}},
		{Client: 2, Seq: 5, Kind: api.Add, Keys: []string{"a"}, N: -3},
		{Client: 2, Seq: 5, Kind: api.Add, Keys: []string{"a"}, N: math.MinInt64},
		{Client: 2, Seq: 5, Kind: api.Add, Keys: []string{"a"}, N: math.MaxInt64},
		{Client: 3, Seq: 6, Kind: api.Cas, Keys: []string{"é"}, Old: long, New: long},
		{Client: 3, Seq: 6, Kind: api.Cas, Keys: []string{"é"}, Old: "o"},
		{Client: 3, Seq: 6, Kind: api.Cas, Keys: []string{"é"}, New: "n"},
		{Client: 3, Seq: 6, Kind: api.Cas, Keys: []string{"é"}},
		{Client: 4, Seq: 7, Kind: api.Swap, Keys: []string{"a", "b"}},
		{Client: 4, Seq: 7, Kind: api.Swap, Keys: []string{"a", "a"}},
		{Client: 4, Seq: 7, Kind: api.Swap, Keys: []string{key, key}},
	}
	for _, n := range []int{1, 2, 3, api.MaxKeys} {
		l = append(l, api.Cmd{Client: 5, Seq: 8, Kind: api.Join, Keys: someKeys(n)}, api.Cmd{Client: 5, Seq: 8, Kind: api.Clear, Keys: someKeys(n)})
	}
	return append(l, api.Cmd{Client: 5, Seq: 8, Kind: api.Join, Keys: slices.Repeat([]string{key}, api.MaxKeys)})
}

// invalid are commands that may not be, each by one thing alone or more.
func invalid() []api.Cmd {
	var l []api.Cmd
	for _, c := range valid() {
		c.Client = 0
		l = append(l, c)
	}
	for _, kind := range []uint8{0, 9, 10, 127, 128, 255} {
		for _, n := range []int{0, 1, 2, api.MaxKeys} {
			l = append(l, api.Cmd{Client: 1, Kind: kind, Keys: someKeys(n)})
		}
	}
	long := strings.Repeat("v", api.MaxValue+1)
	for kind := api.Put; kind <= api.Clear; kind++ {
		base := fitting(kind)
		with := func(change func(c *api.Cmd)) {
			c := base
			c.Keys = slices.Clone(base.Keys)
			change(&c)
			l = append(l, c)
		}
		with(func(c *api.Cmd) { c.Keys = nil })
		with(func(c *api.Cmd) { c.Keys = someKeys(api.MaxKeys + 1) })
		with(func(c *api.Cmd) { c.Keys[len(c.Keys)-1] = "" })
		with(func(c *api.Cmd) { c.Keys[0] = strings.Repeat("k", api.MaxKey+1) })
		with(func(c *api.Cmd) { c.Old = long })
		with(func(c *api.Cmd) { c.New = long })
		if kind < api.Swap {
			with(func(c *api.Cmd) { c.Keys = someKeys(2) })
		}
		if kind == api.Swap {
			with(func(c *api.Cmd) { c.Keys = someKeys(1) })
			with(func(c *api.Cmd) { c.Keys = someKeys(3) })
		}
		if kind != api.Cas {
			with(func(c *api.Cmd) { c.Old = "o" })
		}
		if kind != api.Cas && kind != api.Put {
			with(func(c *api.Cmd) { c.New = "n" })
		}
		if kind != api.Add {
			with(func(c *api.Cmd) { c.N = 1 })
			with(func(c *api.Cmd) { c.N = -1 })
			with(func(c *api.Cmd) { c.N = math.MinInt64 })
		}
	}
	return l
}

func checks(t *testing.T, c api.Cmd, want api.Errno) {
	t.Helper()
	if e := Check(c); e != want {
		t.Errorf("Check(%+v): %v, want %v", c, e, want)
	}
}

// parses tells whether bytes are these commands.
func parses(t *testing.T, b string, want []api.Cmd) {
	t.Helper()
	got, e := Parse([]byte(b))
	if e != api.OK || !slices.EqualFunc(got, want, equal) {
		t.Errorf("Parse(%x): %+v, %v, want %+v", b, got, e, want)
	}
}

// refuses tells whether bytes are no batch, by this error.
func refuses(t *testing.T, b string, want api.Errno) {
	t.Helper()
	if got, e := Parse([]byte(b)); len(got) != 0 || e != want {
		t.Errorf("Parse(%x): %+v, %v, want %v", b, got, e, want)
	}
}

// takes tells whether a reader reads this command from bytes, without an error, and so many bytes are left.
func takes(t *testing.T, b string, want api.Cmd, left int) {
	t.Helper()
	r := varint.NewReader([]byte(b), len(b))
	if got := Take(r); !equal(got, want) || r.Err() != api.OK {
		t.Errorf("Take of %x: %+v, %v, want %+v", b, got, r.Err(), want)
	}
	for range left {
		r.Byte()
	}
	if e := r.Done(); e != api.OK {
		t.Errorf("Take of %x: not %d bytes are left: %v", b, left, e)
	}
}

// spoils tells whether Take answers no command, and its reader has this error.
func spoils(t *testing.T, b string, limit int, want api.Errno) {
	t.Helper()
	r := varint.NewReader([]byte(b), limit)
	for range 2 {
		if got := Take(r); !equal(got, api.Cmd{}) || r.Err() != want {
			t.Errorf("Take of %x, texts of %d: %+v, %v, want no command, %v", b, limit, got, r.Err(), want)
		}
	}
}

// P8.1: Check

func TestCheckOfExamples(t *testing.T) {
	k := []string{"k"}
	checks(t, api.Cmd{Client: 1, Seq: 1, Kind: api.Put, Keys: k, New: "x"}, api.OK)
	checks(t, api.Cmd{Client: 1, Seq: 1, Kind: api.Swap, Keys: k}, api.ErrArg)
	checks(t, api.Cmd{Client: 1, Seq: 1, Kind: api.Get, Keys: k, New: "x"}, api.ErrArg)
	checks(t, api.Cmd{Seq: 1, Kind: api.Put, Keys: k, New: "x"}, api.ErrArg)
	checks(t, api.Cmd{}, api.ErrArg)
}

func TestCheckOfNamedCommands(t *testing.T) {
	for _, c := range valid() {
		checks(t, c, api.OK)
		if !may(c) {
			t.Errorf("the test's own words refuse %+v", c)
		}
	}
	for _, c := range invalid() {
		checks(t, c, api.ErrArg)
		if may(c) {
			t.Errorf("the test's own words take %+v", c)
		}
	}
}

func TestCheckOfNumbersOfKeys(t *testing.T) {
	for _, x := range []struct {
		kind        uint8
		least, most int
	}{
		{0, 1, 0}, {api.Put, 1, 1}, {api.Get, 1, 1}, {api.Del, 1, 1}, {api.Add, 1, 1}, {api.Cas, 1, 1}, {api.Swap, 2, 2}, {api.Join, 1, 16}, {api.Clear, 1, 16}, {9, 1, 0}, {255, 1, 0},
	} {
		for n := range api.MaxKeys + 3 {
			want := api.ErrArg
			if n >= x.least && n <= x.most {
				want = api.OK
			}
			checks(t, api.Cmd{Client: 1, Kind: x.kind, Keys: someKeys(n)}, want)
		}
		checks(t, api.Cmd{Client: 1, Kind: x.kind, Keys: someKeys(256)}, api.ErrArg)
		checks(t, api.Cmd{Client: 1, Kind: x.kind, Keys: someKeys(257)}, api.ErrArg)
	}
}

func TestCheckOfNoOtherKind(t *testing.T) {
	for kind := range 256 {
		want := api.ErrArg
		if kind >= 1 && kind <= 8 {
			want = api.OK
		}
		checks(t, fitting(uint8(kind)), want)
	}
}

func TestCheckOfKeys(t *testing.T) {
	for kind := api.Put; kind <= api.Clear; kind++ {
		for _, size := range []int{0, 1, 2, api.MaxKey - 1, api.MaxKey, api.MaxKey + 1, 256 + 1, 1 << 20} {
			for at := range len(fitting(kind).Keys) {
				c := fitting(kind)
				c.Keys[at] = strings.Repeat("k", size)
				want := api.ErrArg
				if size >= 1 && size <= 32 {
					want = api.OK
				}
				checks(t, c, want)
			}
		}
	}
	for at := range api.MaxKeys {
		for _, wrong := range []string{"", strings.Repeat("k", api.MaxKey+1)} {
			c := api.Cmd{Client: 1, Kind: api.Join, Keys: someKeys(api.MaxKeys)}
			c.Keys[at] = wrong
			checks(t, c, api.ErrArg)
		}
	}
	// A key's length is counted in bytes, whatever these are.
	checks(t, api.Cmd{Client: 1, Kind: api.Get, Keys: []string{strings.Repeat("é", 16)}}, api.OK)
	checks(t, api.Cmd{Client: 1, Kind: api.Get, Keys: []string{strings.Repeat("é", 17)}}, api.ErrArg)
	checks(t, api.Cmd{Client: 1, Kind: api.Get, Keys: []string{strings.Repeat("\xff", 32)}}, api.OK)
}

func TestCheckOfValues(t *testing.T) {
	for kind := api.Put; kind <= api.Clear; kind++ {
		for _, size := range []int{0, 1, api.MaxValue - 1, api.MaxValue, api.MaxValue + 1, 256, 1 << 20} {
			s := strings.Repeat("v", size)
			want := func(may bool) api.Errno {
				if size == 0 || may && size <= 64 {
					return api.OK
				}
				return api.ErrArg
			}
			c := fitting(kind)
			c.Old = s
			checks(t, c, want(kind == api.Cas))
			c = fitting(kind)
			c.New = s
			checks(t, c, want(kind == api.Put || kind == api.Cas))
			c = fitting(kind)
			c.Old, c.New = s, s
			checks(t, c, want(kind == api.Cas))
		}
	}
}

func TestCheckOfNumbers(t *testing.T) {
	for kind := api.Put; kind <= api.Clear; kind++ {
		for _, n := range []int64{math.MinInt64, -1, 0, 1, 1 << 32, math.MaxInt64} {
			c := fitting(kind)
			c.N = n
			want := api.ErrArg
			if n == 0 || kind == api.Add {
				want = api.OK
			}
			checks(t, c, want)
		}
		for _, client := range []uint32{0, 1, 2, 1 << 16, math.MaxUint32} {
			for _, seq := range []uint32{0, 1, 1 << 16, math.MaxUint32} {
				c := fitting(kind)
				c.Client, c.Seq = client, seq
				want := api.OK
				if client == 0 {
					want = api.ErrArg
				}
				checks(t, c, want)
			}
		}
	}
}

// random is some command: often one that may be, or nearly.
func random(source *rand.Rand) api.Cmd {
	texts := func(most int) string {
		return strings.Repeat(string([]byte{byte(source.Intn(256))}), []int{0, 1, 2, most, most + 1}[source.Intn(5)])
	}
	rare := func() bool { return source.Intn(6) == 0 }
	c := api.Cmd{Client: source.Uint32() >> source.Intn(32), Seq: source.Uint32() >> source.Intn(32), Kind: uint8(source.Intn(9) + source.Intn(2))}
	n := []int{1, 1, 2, 2, source.Intn(api.MaxKeys + 2)}[source.Intn(5)]
	for range n {
		key := texts(api.MaxKey)
		if !rare() {
			key = string([]byte{byte(source.Intn(256))})
		}
		c.Keys = append(c.Keys, key)
	}
	if c.Kind == api.Cas || rare() {
		c.Old = texts(api.MaxValue)
	}
	if c.Kind == api.Cas || c.Kind == api.Put || rare() {
		c.New = texts(api.MaxValue)
	}
	if c.Kind == api.Add || rare() {
		c.N = int64(source.Uint64()) >> source.Intn(64)
	}
	return c
}

func TestCheckOfRandomOnes(t *testing.T) {
	source := rand.New(rand.NewSource(1))
	count := map[api.Errno]int{}
	for range 50000 {
		c := random(source)
		want := api.ErrArg
		if may(c) {
			want = api.OK
		}
		checks(t, c, want)
		count[want]++
	}
	if count[api.OK] < 5000 || count[api.ErrArg] < 5000 {
		t.Errorf("too few of a sort: %v", count)
	}
}

// P8.1: Put

func TestPutOfExample(t *testing.T) {
	want := "\x01\x01\x01\x01\x01\x6b\x00\x01\x78\x00"
	c := api.Cmd{Client: 1, Seq: 1, Kind: api.Put, Keys: []string{"k"}, New: "x"}
	if got := string(Put(nil, c)); got != want {
		t.Errorf("%x, want %x", got, want)
	}
	takes(t, want, c, 0)
}

func TestPutOfFields(t *testing.T) {
	for want, c := range map[string]api.Cmd{
		"\x00\x00\x00\x00\x00\x00\x00":                                 {},
		"\xac\x02\x02\x04\x01\x01a\x00\x00\x05":                        {Client: 300, Seq: 2, Kind: api.Add, Keys: []string{"a"}, N: -3},
		"\x01\x80\x01\x06\x02\x02ab\x01c\x00\x00\x00":                  {Client: 1, Seq: 128, Kind: api.Swap, Keys: []string{"ab", "c"}},
		"\x07\x08\x05\x01\x01k\x03old\x02nw\x00":                       {Client: 7, Seq: 8, Kind: api.Cas, Keys: []string{"k"}, Old: "old", New: "nw"},
		"\x00\x00\xff\x01\x01\x00\x01o\x01n\x80\x01":                   {Kind: 255, Keys: []string{""}, Old: "o", New: "n", N: 64},
		"\xff\xff\xff\xff\x0f\xff\xff\xff\xff\x0f\x03\x00\x00\x00\x00": {Client: math.MaxUint32, Seq: math.MaxUint32, Kind: api.Del},
	} {
		if got := string(Put(nil, c)); got != want {
			t.Errorf("Put(%+v) = %x, want %x", c, got, want)
		}
	}
}

// Put writes whatever a command holds, also one that may not be.
func TestPutOfInvalidOnesToo(t *testing.T) {
	source := rand.New(rand.NewSource(2))
	l := slices.Concat(valid(), invalid())
	for range 5000 {
		l = append(l, random(source))
	}
	for i, c := range l {
		head := strings.Repeat("\x80q", i%4)
		if got, want := string(Put([]byte(head), c)), head+encoded(c); got != want {
			t.Errorf("Put(%x, %+v) = %x, want %x", head, c, got, want)
		}
	}
}

func TestPutOfMany(t *testing.T) {
	c := api.Cmd{Client: 1, Kind: api.Join, Keys: slices.Repeat([]string{"key", ""}, 100000), Old: strings.Repeat("o", 1<<20)}
	if got, want := string(Put(nil, c)), encoded(c); got != want {
		t.Errorf("%d bytes, want %d", len(got), len(want))
	}
	takes(t, encoded(c), c, 0)
}

// P8.1: Take

func TestTakeOneAfterAnother(t *testing.T) {
	var b strings.Builder
	l := slices.Concat(valid(), invalid())
	for _, c := range l {
		b.WriteString(encoded(c))
	}
	r := varint.NewReader([]byte(b.String()), api.MaxValue+1)
	for _, want := range l {
		if got := Take(r); !equal(got, want) || r.Err() != api.OK {
			t.Fatalf("%+v, %v, want %+v", got, r.Err(), want)
		}
	}
	if e := r.Done(); e != api.OK {
		t.Errorf("at the end: %v", e)
	}
}

func TestTakeLeavesWhatFollows(t *testing.T) {
	for _, c := range valid() {
		takes(t, encoded(c)+"\x00\x80\xff", c, 3)
	}
}

func TestTakeOfBytesThatEnd(t *testing.T) {
	for _, c := range slices.Concat(valid(), invalid()) {
		b := encoded(c)
		for end := range len(b) {
			spoils(t, b[:end], len(b), api.ErrShort)
		}
	}
}

func TestTakeOfReaderWithError(t *testing.T) {
	b := encoded(valid()[0])
	for _, x := range []struct {
		name string
		ends func() *varint.Reader
		e    api.Errno
	}{
		{"a number that is not the shortest", func() *varint.Reader {
			r := varint.NewReader([]byte("\x80\x00"+b), 64)
			r.Uint()
			return r
		}, api.ErrForm},
		{"a text above the limit", func() *varint.Reader {
			r := varint.NewReader([]byte("\x41"+b), 64)
			r.Text()
			return r
		}, api.ErrForm},
		{"bytes that are left", func() *varint.Reader {
			r := varint.NewReader([]byte(b), 64)
			r.Done()
			return r
		}, api.ErrForm},
		{"bytes that ended", func() *varint.Reader {
			r := varint.NewReader(nil, 64)
			r.Byte()
			return r
		}, api.ErrShort},
		{"a text that ends behind a command's bytes", func() *varint.Reader {
			r := varint.NewReader([]byte("\x40"+b), 64)
			r.Text()
			return r
		}, api.ErrShort},
		{"no reader", func() *varint.Reader { return nil }, api.ErrNil},
	} {
		r := x.ends()
		for range 2 {
			if got := Take(r); !equal(got, api.Cmd{}) || r.Err() != x.e {
				t.Errorf("%s: %+v, %v, want %v", x.name, got, r.Err(), x.e)
			}
		}
	}
}

func TestTakeOfReadersLimit(t *testing.T) {
	c := api.Cmd{Client: 1, Kind: api.Cas, Keys: []string{"kkk"}, Old: "oooo", New: "nnnnn"}
	takes(t, encoded(c), c, 0)
	for limit := -1; limit < 5; limit++ {
		spoils(t, encoded(c), limit, api.ErrForm)
	}
	long := api.Cmd{Client: 1, Kind: api.Get, Keys: []string{strings.Repeat("k", 64)}}
	takes(t, encoded(long), long, 0)
	spoils(t, "\x01\x01\x01\x01\x41", api.MaxValue, api.ErrForm)
	spoils(t, "\x01\x01\x01\x01\x40", api.MaxValue, api.ErrShort)
}

// item is a number, and the text that it is the length of, if it is one.
type item struct {
	n    uint64
	text string
}

// items are what a command's bytes consist of, in order.
func items(c api.Cmd) []item {
	l := []item{{uint64(c.Client), ""}, {uint64(c.Seq), ""}, {uint64(c.Kind), ""}, {uint64(len(c.Keys)), ""}}
	for _, s := range append(slices.Clone(c.Keys), c.Old, c.New) {
		l = append(l, item{uint64(len(s)), s})
	}
	return append(l, item{uint64(c.N)<<1 ^ uint64(c.N>>63), ""})
}

// replaced is a command's bytes in which the number of one item is written as these bytes.
func replaced(l []item, at int, number string) string {
	var b []byte
	for i, x := range l {
		if i == at {
			b = append(b, number...)
		} else {
			b = binary.AppendUvarint(b, x.n)
		}
		b = append(b, x.text...)
	}
	return string(b)
}

// longer is a number in a form that is not the shortest.
func longer(n uint64) string {
	b := binary.AppendUvarint(nil, n)
	b[len(b)-1] |= 0x80
	return string(append(b, 0))
}

func TestNumbersNotInForm(t *testing.T) {
	wide := strings.Repeat("\x80", 9) + "\x02"
	for _, c := range valid() {
		l := items(c)
		if got := replaced(l, -1, ""); got != encoded(c) {
			t.Fatalf("%x, want %x", got, encoded(c))
		}
		for at, x := range l {
			for _, number := range []string{longer(x.n), longer(x.n)[:len(longer(x.n))-1] + "\x80\x00", wide, wide[:9] + "\x80", strings.Repeat("\xff", 11)} {
				b := replaced(l, at, number)
				spoils(t, b, api.MaxValue, api.ErrForm)
				refuses(t, "\x01"+b, api.ErrForm)
				refuses(t, "\x02"+encoded(c)+b, api.ErrForm)
			}
		}
	}
	for _, number := range []string{longer(0), longer(1), longer(8), wide} {
		refuses(t, number, api.ErrForm)
		refuses(t, number+encoded(valid()[0]), api.ErrForm)
	}
	refuses(t, "\x81\x00"+encoded(valid()[0]), api.ErrForm)
}

func TestNumbersTooGreat(t *testing.T) {
	for _, c := range valid() {
		l := items(c)
		for at, least := range []uint64{1 << 32, 1 << 32, 1 << 8} {
			for _, n := range []uint64{least, least + l[at].n, least + 1, 3*least + 1, 1 << 62, 1<<63 | 1, math.MaxUint64 - least + 2, math.MaxUint64} {
				b := replaced(l, at, string(binary.AppendUvarint(nil, n)))
				takes(t, b+"\x07", api.Cmd{}, 1)
				refuses(t, "\x01"+b, api.ErrForm)
				refuses(t, "\x02"+encoded(c)+b, api.ErrForm)
				refuses(t, "\x02"+b+encoded(c), api.ErrForm)
				// What ends is told first.
				refuses(t, "\x02"+b, api.ErrShort)
				refuses(t, "\x01"+b[:len(b)-1], api.ErrShort)
				spoils(t, b[:len(b)-1], api.MaxValue, api.ErrShort)
			}
			most := string(binary.AppendUvarint(nil, least-1))
			b := replaced(l, at, most)
			if got := Put(nil, Take(varint.NewReader([]byte(b), api.MaxValue))); string(got) != b {
				t.Errorf("%x is read and written as %x", b, got)
			}
		}
	}
}

func TestNumberOfKeysTooGreat(t *testing.T) {
	for _, n := range []uint64{17, 18, 255, 256, 257, 1 << 20} {
		c := api.Cmd{Client: 1, Seq: 1, Kind: api.Join, Keys: slices.Repeat([]string{"k"}, int(n))}
		takes(t, encoded(c), c, 0)
		refuses(t, "\x01"+encoded(c), api.ErrForm)
		refuses(t, "\x02"+encoded(c), api.ErrShort)
	}
	for _, n := range []uint64{2, 17, 256, 1 << 31, 1 << 32, 1 << 63, math.MaxUint64} {
		head := string(binary.AppendUvarint([]byte("\x01\x01\x07"), n))
		spoils(t, head, api.MaxValue, api.ErrShort)
		spoils(t, head+"\x01k", api.MaxValue, api.ErrShort)
		refuses(t, "\x01"+head, api.ErrShort)
		refuses(t, "\x01"+head+"\x01k", api.ErrShort)
		spoils(t, head+"\x00\x00\x00", api.MaxValue, api.ErrShort)
		refuses(t, "\x01"+head+"\x00\x00\x00", api.ErrShort)
		refuses(t, "\x01"+head+"\x41", api.ErrForm)
	}
}

// P8.1: Same

func TestSameOfOneField(t *testing.T) {
	base := api.Cmd{Client: 1, Seq: 2, Kind: api.Cas, Keys: []string{"a", "b"}, Old: "o", New: "n", N: 3}
	for name, change := range map[string]func(c *api.Cmd){
		"Client":           func(c *api.Cmd) { c.Client = 2 },
		"Client's highest": func(c *api.Cmd) { c.Client |= 1 << 31 },
		"Seq":              func(c *api.Cmd) { c.Seq = 1 },
		"Seq's highest":    func(c *api.Cmd) { c.Seq |= 1 << 31 },
		"Kind":             func(c *api.Cmd) { c.Kind = api.Put },
		"Kind's highest":   func(c *api.Cmd) { c.Kind |= 1 << 7 },
		"no keys":          func(c *api.Cmd) { c.Keys = nil },
		"a key less":       func(c *api.Cmd) { c.Keys = []string{"a"} },
		"a key more":       func(c *api.Cmd) { c.Keys = []string{"a", "b", ""} },
		"a key twice":      func(c *api.Cmd) { c.Keys = []string{"a", "b", "b"} },
		"the keys' order":  func(c *api.Cmd) { c.Keys = []string{"b", "a"} },
		"the first key":    func(c *api.Cmd) { c.Keys = []string{"A", "b"} },
		"the last key":     func(c *api.Cmd) { c.Keys = []string{"a", "bb"} },
		"the keys' bounds": func(c *api.Cmd) { c.Keys = []string{"ab", ""} },
		"Old":              func(c *api.Cmd) { c.Old = "p" },
		"no Old":           func(c *api.Cmd) { c.Old = "" },
		"New":              func(c *api.Cmd) { c.New = "N" },
		"no New":           func(c *api.Cmd) { c.New = "" },
		"Old and New":      func(c *api.Cmd) { c.Old, c.New = c.New, c.Old },
		"Old, of New":      func(c *api.Cmd) { c.Old, c.New = "on", "" },
		"N":                func(c *api.Cmd) { c.N = -3 },
		"N's highest":      func(c *api.Cmd) { c.N += math.MinInt64 },
	} {
		c := base
		change(&c)
		if Same(base, c) || Same(c, base) {
			t.Errorf("%s: the same as another one", name)
		}
		twin := c
		twin.Keys = append([]string{}, c.Keys...)
		if !Same(c, twin) || !Same(twin, c) || !Same(c, c) {
			t.Errorf("%s: not the same as itself", name)
		}
	}
}

func TestSameOfNoKeys(t *testing.T) {
	a, b := api.Cmd{Client: 1, Kind: api.Join}, api.Cmd{Client: 1, Kind: api.Join, Keys: []string{}}
	if !Same(a, b) || !Same(b, a) || !Same(api.Cmd{}, api.Cmd{Keys: []string{}}) {
		t.Error("nil keys are other ones than empty ones")
	}
	if c := (api.Cmd{Client: 1, Kind: api.Join, Keys: []string{""}}); Same(a, c) || Same(c, b) {
		t.Error("no key is the same as an empty one")
	}
}

func TestSameOfEachTwo(t *testing.T) {
	l := slices.Concat(valid(), invalid())
	for i, a := range l {
		for j, b := range l {
			if got, want := Same(a, b), encoded(a) == encoded(b); got != want {
				t.Errorf("Same of %d and %d: %v: %+v, %+v", i, j, got, a, b)
			}
		}
	}
}

// P8.2

// batches are batches that may be: of none, of one, of some, of MaxBatch.
func batches() [][]api.Cmd {
	l := valid()
	out := [][]api.Cmd{nil, {}, l[:2], l[3:10], l[:api.MaxBatch], l[len(l)-api.MaxBatch:], slices.Repeat(l[:1], api.MaxBatch), slices.Repeat(l[len(l)-1:], api.MaxBatch)}
	for i := range l {
		out = append(out, l[i:i+1])
	}
	return out
}

func TestBatchOfExamples(t *testing.T) {
	if b, e := Batch(nil); string(b) != "\x00" || e != api.OK {
		t.Errorf("of none: %x, %v", b, e)
	}
	if b, e := Batch([]api.Cmd{}); string(b) != "\x00" || e != api.OK {
		t.Errorf("of an empty list: %x, %v", b, e)
	}
	l := []api.Cmd{{Client: 1, Seq: 1, Kind: api.Put, Keys: []string{"k"}, New: "x"}, {Client: 300, Seq: 2, Kind: api.Add, Keys: []string{"a"}, N: -3}}
	want := "\x02\x01\x01\x01\x01\x01k\x00\x01x\x00\xac\x02\x02\x04\x01\x01a\x00\x00\x05"
	if b, e := Batch(l); string(b) != want || e != api.OK {
		t.Errorf("of two: %x, %v", b, e)
	}
	parses(t, want, l)
	parses(t, "\x00", nil)
}

func TestBatchOfCommands(t *testing.T) {
	for _, l := range batches() {
		if b, e := Batch(l); string(b) != encodedBatch(l) || e != api.OK {
			t.Errorf("Batch(%+v): %x, %v", l, b, e)
		}
		parses(t, encodedBatch(l), l)
	}
}

// noBatch tells whether commands are none, for both of Batch and Parse.
func noBatch(t *testing.T, l []api.Cmd) {
	t.Helper()
	if b, e := Batch(l); len(b) != 0 || e != api.ErrArg {
		t.Errorf("Batch(%+v): %x, %v", l, b, e)
	}
	refuses(t, encodedBatch(l), api.ErrForm)
}

func TestBatchOfTooMany(t *testing.T) {
	for _, n := range []int{api.MaxBatch + 1, api.MaxBatch + 2, 16, 127, 128, 256, 257, 5000} {
		noBatch(t, slices.Repeat(valid()[:1], n))
		noBatch(t, slices.Repeat(invalid()[:1], n))
		noBatch(t, make([]api.Cmd, n))
	}
}

func TestBatchOfInvalidCommands(t *testing.T) {
	for _, c := range invalid() {
		noBatch(t, []api.Cmd{c})
	}
	noBatch(t, make([]api.Cmd, 1))
	for _, wrong := range []api.Cmd{{}, {Client: 1, Kind: 9, Keys: []string{"k"}}, {Kind: api.Get, Keys: []string{"k"}}} {
		for at := range api.MaxBatch {
			l := slices.Clone(valid()[:api.MaxBatch])
			l[at] = wrong
			noBatch(t, l)
		}
	}
}

func TestParseOfBytesThatEnd(t *testing.T) {
	refuses(t, "", api.ErrShort)
	for _, l := range batches() {
		b := encodedBatch(l)
		for end := range len(b) {
			refuses(t, b[:end], api.ErrShort)
		}
	}
}

func TestParseOfBytesThatAreLeft(t *testing.T) {
	refuses(t, "\x00\x00", api.ErrForm)
	refuses(t, "\x00"+encoded(valid()[0]), api.ErrForm)
	for _, l := range batches() {
		for _, left := range []string{"\x00", "\x80", "\xff\xff", encodedBatch(l)} {
			refuses(t, encodedBatch(l)+left, api.ErrForm)
		}
	}
}

// The errors of layer 1 come first: bytes that end are told ahead of a command that may not be, and of commands that are too many.
func TestParseOrderOfErrors(t *testing.T) {
	good := encoded(valid()[0])
	for _, c := range invalid() {
		if len(c.Old) > api.MaxValue || len(c.New) > api.MaxValue {
			refuses(t, "\x02"+encoded(c), api.ErrForm)
			continue
		}
		refuses(t, "\x02"+encoded(c), api.ErrShort)
		refuses(t, "\x02"+encoded(c)+good[:len(good)-1], api.ErrShort)
		refuses(t, "\x02"+encoded(c)+good+"\x00", api.ErrForm)
		refuses(t, "\x02"+encoded(c)+good, api.ErrForm)
	}
	refuses(t, "\x09", api.ErrShort)
	refuses(t, "\x09"+strings.Repeat(good, 8), api.ErrShort)
	refuses(t, "\x09"+strings.Repeat(good, 9)[:9*len(good)-1], api.ErrShort)
	refuses(t, "\x09"+strings.Repeat(good, 9), api.ErrForm)
	refuses(t, "\x09"+strings.Repeat(good, 10), api.ErrForm)
	refuses(t, "\x0a"+strings.Repeat(good, 9), api.ErrShort)
	refuses(t, "\x40"+strings.Repeat(good, 63), api.ErrShort)
	refuses(t, "\x40"+strings.Repeat(good, 64), api.ErrForm)
	for _, n := range []uint64{1 << 31, 1 << 32, 1 << 63, math.MaxUint64} {
		head := string(binary.AppendUvarint(nil, n))
		refuses(t, head, api.ErrShort)
		refuses(t, head+good+good, api.ErrShort)
		refuses(t, head+good+"\x80\x00", api.ErrForm)
	}
	// A text longer than any that may be is ill-formed at once, whatever follows it.
	refuses(t, "\x01\x01\x01\x01\x01\x41", api.ErrForm)
	refuses(t, "\x01\x01\x01\x01\x01\x40", api.ErrShort)
	refuses(t, "\x01\x01\x01\x01\x01\x21"+strings.Repeat("k", 33)+"\x00\x00\x00", api.ErrForm)
	refuses(t, "\x01\x01\x01\x01\x01\x21"+strings.Repeat("k", 33)+"\x00\x00", api.ErrShort)
	refuses(t, "\x01\x01\x01\x01\x01\x20"+strings.Repeat("k", 32)+"\x00\x00", api.ErrShort)
}

// P8.3

func TestEncodedIsParsed(t *testing.T) {
	source := rand.New(rand.NewSource(3))
	count := 0
	for range 20000 {
		var l []api.Cmd
		for range source.Intn(api.MaxBatch + 2) {
			c := random(source)
			for !may(c) && source.Intn(50) > 0 {
				c = random(source)
			}
			l = append(l, c)
		}
		b, e := Batch(l)
		if e != api.OK {
			noBatch(t, l)
			continue
		}
		count++
		parses(t, string(b), l)
		m, _ := Parse(b)
		for i := range m {
			if !Same(m[i], l[i]) {
				t.Errorf("%+v, want %+v", m[i], l[i])
			}
		}
	}
	if count < 5000 {
		t.Errorf("only %d batches that may be", count)
	}
}

// rewritten tells whether bytes that are parsed are encoded as themselves.
func rewritten(t *testing.T, b []byte) bool {
	t.Helper()
	l, e := Parse(b)
	if e != api.OK {
		if len(l) != 0 || e != api.ErrShort && e != api.ErrForm {
			t.Errorf("Parse(%x): %+v, %v", b, l, e)
		}
		return false
	}
	if again, e := Batch(l); !bytes.Equal(again, b) || e != api.OK {
		t.Errorf("%x is parsed, and encoded as %x, %v", b, again, e)
	}
	return true
}

func TestParsedIsEncodedAsItself(t *testing.T) {
	source := rand.New(rand.NewSource(4))
	count := 0
	for _, l := range batches() {
		b := []byte(encodedBatch(l))
		if len(b) > 300 {
			continue
		}
		if !rewritten(t, b) {
			t.Errorf("%x is no batch", b)
		}
		for at := range b {
			for value := range 256 {
				changed := slices.Clone(b)
				changed[at] = byte(value)
				if rewritten(t, changed) {
					count++
				}
			}
		}
		for range 2000 {
			changed := slices.Clone(b)
			for range 1 + source.Intn(3) {
				at := source.Intn(len(changed))
				changed = slices.Replace(changed, at, at+source.Intn(2), []byte{0, 1, 2, 3, 8, 0x80, 0xff}[source.Intn(7)])
			}
			if len(changed) > 0 && rewritten(t, changed) {
				count++
			}
		}
	}
	if count < 10000 {
		t.Errorf("only %d were parsed", count)
	}
}

func FuzzParse(f *testing.F) {
	for _, l := range batches() {
		f.Add([]byte(encodedBatch(l)))
	}
	f.Add([]byte("\x09"))
	f.Add([]byte("\xff\xff\xff\xff\xff\xff\xff\xff\xff\x01"))
	f.Add([]byte("\x01\x01\x01\x07\xff\xff\xff\xff\xff\xff\xff\xff\xff\x01\x01k"))
	f.Fuzz(func(t *testing.T, b []byte) {
		rewritten(t, b)
		r := varint.NewReader(b, api.MaxValue)
		c := Take(r)
		if r.Err() != api.OK && !equal(c, api.Cmd{}) {
			t.Errorf("Take of %x: %+v beside %v", b, c, r.Err())
		}
		if e := Check(c); e == api.OK && (r.Err() != api.OK || !bytes.HasPrefix(b, Put(nil, c))) {
			t.Errorf("%x is read as %+v, and written as %x", b, c, Put(nil, c))
		}
	})
}

// R3

// roomy is a list with spare capacity that holds what must stay as it is.
func roomy[T interface{ ~byte | ~string }](l []T, rest T) (list, whole []T) {
	whole = append(slices.Clone(l), slices.Repeat([]T{rest}, 40)...)
	return whole[:len(l):len(whole)], whole
}

func TestPutKeepsItsArguments(t *testing.T) {
	for _, c := range valid() {
		b, whole := roomy([]byte("abc"), 0xee)
		keys, wholeKeys := roomy(c.Keys, "rest")
		before, beforeKeys := slices.Clone(whole), slices.Clone(wholeKeys)
		c.Keys = keys
		first := Put(b, c)
		want := slices.Clone(first)
		if string(want) != "abc"+encoded(c) {
			t.Errorf("%x, want %x", want, "abc"+encoded(c))
		}
		for i := range first[:cap(first)] {
			first[:cap(first)][i] = 0x55
		}
		if !bytes.Equal(whole, before) || !slices.Equal(wholeKeys, beforeKeys) {
			t.Errorf("Put changed its arguments, or shares memory with them: %x, %q", whole, wholeKeys)
		}
		if again := Put(b, c); !bytes.Equal(again, want) {
			t.Errorf("%x, and again %x", want, again)
		}
	}
	if a, b := Put(nil, valid()[0]), Put([]byte{}, valid()[0]); !bytes.Equal(a, b) {
		t.Errorf("behind nil %x, behind an empty list %x", a, b)
	}
}

func TestBatchKeepsItsArguments(t *testing.T) {
	whole := make([]api.Cmd, 3, 12)
	copy(whole, valid()[13:16])
	copy(whole[3:12], valid())
	for i := range whole[:12] {
		whole[:12][i].Keys, _ = roomy(whole[:12][i].Keys, "rest")
	}
	want := encodedBatch(whole)
	before := encodedBatch(whole[:12])
	first, e := Batch(whole)
	if string(first) != want || e != api.OK {
		t.Fatalf("%x, %v", first, e)
	}
	for i := range first[:cap(first)] {
		first[:cap(first)][i] = 0x55
	}
	if encodedBatch(whole[:12]) != before {
		t.Error("Batch changed its argument")
	}
	for _, c := range whole[:12] {
		if rest := c.Keys[len(c.Keys):cap(c.Keys)]; slices.ContainsFunc(rest, func(s string) bool { return s != "rest" }) {
			t.Errorf("the spare capacity of a command's keys was changed: %q", rest)
		}
	}
	if again, e := Batch(whole); string(again) != want || e != api.OK {
		t.Errorf("again: %x, %v", again, e)
	}
}

func TestCheckAndSameKeepTheirArguments(t *testing.T) {
	for _, c := range slices.Concat(valid(), invalid()) {
		keys, whole := roomy(c.Keys, "rest")
		before := slices.Clone(whole)
		c.Keys = keys
		Check(c)
		Same(c, c)
		if !slices.Equal(whole, before) {
			t.Errorf("%q, want %q", whole, before)
		}
	}
}

func TestParseKeepsNoArgument(t *testing.T) {
	l := valid()[:api.MaxBatch]
	b, whole := roomy([]byte(encodedBatch(l)), 0xee)
	before := slices.Clone(whole)
	got, e := Parse(b)
	if !bytes.Equal(whole, before) {
		t.Errorf("Parse changed its argument: %x", whole)
	}
	clear(whole)
	if e != api.OK || !slices.EqualFunc(got, l, equal) {
		t.Errorf("the result shows what was written to the argument: %+v, %v", got, e)
	}
	r := varint.NewReader(before, api.MaxValue)
	r.Byte()
	c := Take(r)
	clear(before)
	if !equal(c, l[0]) {
		t.Errorf("Take: the result shows what was written to the bytes: %+v", c)
	}
}

func TestResultsShareNothing(t *testing.T) {
	l := []api.Cmd{{Client: 1, Kind: api.Join, Keys: someKeys(5)}, {Client: 2, Kind: api.Join, Keys: someKeys(5)}, {Client: 3, Kind: api.Swap, Keys: someKeys(2)}}
	b := encodedBatch(l)
	scribble := func(c api.Cmd) {
		all := c.Keys[:cap(c.Keys)]
		for i := range all {
			all[i] = "scribble"
		}
	}
	first, _ := Parse([]byte(b))
	second, _ := Parse([]byte(b))
	scribble(first[0])
	all := first[:cap(first)]
	if !equal(first[1], l[1]) || !equal(first[2], l[2]) || !slices.EqualFunc(second, l, equal) {
		t.Errorf("results share lists: %+v, %+v", first, second)
	}
	for i := range all {
		scribble(all[i])
		all[i] = api.Cmd{}
	}
	if third, _ := Parse([]byte(b)); !slices.EqualFunc(second, l, equal) || !slices.EqualFunc(third, l, equal) {
		t.Errorf("a later result shows what was written to an earlier one: %+v, %+v", second, third)
	}
	r := varint.NewReader([]byte(b), api.MaxValue)
	r.Byte()
	one := Take(r)
	scribble(one)
	if two := Take(r); !equal(two, l[1]) {
		t.Errorf("a later command of a reader shows what was written to an earlier one: %+v", two)
	}
}

// R1, R2: the same arguments, the same results, whatever was called in between.
func TestNoStateRemains(t *testing.T) {
	good, bad := valid()[0], invalid()[0]
	first, _ := Batch([]api.Cmd{good})
	for range 3 {
		checks(t, good, api.OK)
		checks(t, bad, api.ErrArg)
		noBatch(t, []api.Cmd{good, bad})
		refuses(t, "\x02"+encoded(good), api.ErrShort)
		parses(t, string(first), []api.Cmd{good})
		if again, e := Batch([]api.Cmd{good}); !bytes.Equal(again, first) || e != api.OK {
			t.Errorf("%x, want %x", again, first)
		}
	}
}
