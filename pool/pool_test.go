package pool

import (
	"bytes"
	"math"
	"math/rand"
	"slices"
	"testing"

	"quorate/api"
)

func create(t *testing.T, n, size int) *Pool {
	t.Helper()
	p, e := New(n, size)
	if p == nil || e != api.OK {
		t.Fatalf("New(%d, %d): %v, %v", n, size, p, e)
	}
	return p
}

func frees(t *testing.T, p *Pool, want int) {
	t.Helper()
	if got := p.Free(); got != want {
		t.Errorf("Free: %d, want %d", got, want)
	}
}

// lends tells whether Get lends this.
func lends(t *testing.T, p *Pool, i int, gen uint32) Handle {
	t.Helper()
	want := Handle{I: i, Gen: gen}
	if h, e := p.Get(); h != want || e != api.OK {
		t.Fatalf("Get: %v, %v, want %v", h, e, want)
	}
	return want
}

func full(t *testing.T, p *Pool) {
	t.Helper()
	if h, e := p.Get(); h != (Handle{}) || e != api.ErrFull {
		t.Errorf("Get: %v, %v, want none, %v", h, e, api.ErrFull)
	}
}

func back(t *testing.T, p *Pool, h Handle, want api.Errno) {
	t.Helper()
	if e := p.Back(h); e != want {
		t.Errorf("Back of %v: %v, want %v", h, e, want)
	}
}

func set(t *testing.T, p *Pool, h Handle, b []byte, want api.Errno) {
	t.Helper()
	if e := p.Set(h, b); e != want {
		t.Errorf("Set of %v, %d bytes: %v, want %v", h, len(b), e, want)
	}
}

func holds(t *testing.T, p *Pool, h Handle, want []byte) {
	t.Helper()
	if got, e := p.Bytes(h); !bytes.Equal(got, want) || e != api.OK {
		t.Errorf("Bytes of %v: %q, %v, want %q", h, got, e, want)
	}
}

// stale tells whether each call refuses a handle, and tells nothing beside that.
func stale(t *testing.T, p *Pool, h Handle) {
	t.Helper()
	back(t, p, h, api.ErrStale)
	set(t, p, h, nil, api.ErrStale)
	set(t, p, h, []byte("x"), api.ErrStale)
	if got, e := p.Bytes(h); len(got) != 0 || e != api.ErrStale {
		t.Errorf("Bytes of %v: %q, %v, want none, %v", h, got, e, api.ErrStale)
	}
}

// New

func TestNewWithinTheLimits(t *testing.T) {
	for _, x := range [][2]int{
		{1, 1}, {1, 2}, {1, api.MaxFrame - 1}, {1, api.MaxFrame}, {2, 1}, {2, api.MaxFrame}, {4095, 1}, {4096, 1}, {4096, 2},
	} {
		p := create(t, x[0], x[1])
		frees(t, p, x[0])
		h := lends(t, p, 0, 1)
		frees(t, p, x[0]-1)
		set(t, p, h, make([]byte, x[1]), api.OK)
		set(t, p, h, make([]byte, x[1]+1), api.ErrLong)
	}
}

// One that is beyond its limits is enough, and both may be: of those there is no pool.
func TestNewBeyondTheLimits(t *testing.T) {
	beyond := func(n, size int) {
		if p, e := New(n, size); p != nil || e != api.ErrArg {
			t.Errorf("New(%d, %d): %v, %v, want none, %v", n, size, p, e, api.ErrArg)
		}
	}
	counts := []int{math.MinInt, math.MinInt32, -4096, -1, 0, 4097, 8192, api.MaxFrame, 1 << 32, 1<<32 + 1, math.MaxInt}
	sizes := []int{math.MinInt, math.MinInt32, -api.MaxFrame, -1, 0, api.MaxFrame + 1, 2 * api.MaxFrame, 1 << 32, 1<<32 + 1, math.MaxInt}
	for _, n := range counts {
		for _, size := range slices.Concat(sizes, []int{1, 2, 100, 4096, api.MaxFrame}) {
			beyond(n, size)
		}
	}
	for _, size := range sizes {
		for _, n := range []int{1, 2, 100, 4095, 4096} {
			beyond(n, size)
		}
	}
}

func TestNewOfTheGreatest(t *testing.T) {
	p := create(t, 4096, api.MaxFrame)
	b := bytes.Repeat([]byte("g"), api.MaxFrame)
	for i := range 4096 {
		h := lends(t, p, i, 1)
		if i == 0 || i == 4095 {
			set(t, p, h, b, api.OK)
			set(t, p, h, append(b, 'g'), api.ErrLong)
			holds(t, p, h, b)
		}
	}
	full(t, p)
	frees(t, p, 0)
}

// P4.1

func TestExample(t *testing.T) {
	p := create(t, 2, 4)
	h := lends(t, p, 0, 1)
	lends(t, p, 1, 1)
	full(t, p)

	p = create(t, 2, 4)
	lends(t, p, 0, 1)
	back(t, p, h, api.OK)
	back(t, p, h, api.ErrStale)
	lends(t, p, 0, 2)
}

func TestInitiallyTheLeastIndex(t *testing.T) {
	for _, n := range []int{1, 2, 3, 7, 100, 4095, 4096} {
		p := create(t, n, 1)
		for i := range n {
			frees(t, p, n-i)
			holds(t, p, lends(t, p, i, 1), nil)
		}
		for range 3 {
			full(t, p)
			frees(t, p, 0)
		}
	}
}

// What was returned last is lent first, whichever it is; what was never lent comes after it.
func TestReturnedLastIsLentNext(t *testing.T) {
	p := create(t, 6, 4)
	var h []Handle
	for i := range 4 {
		h = append(h, lends(t, p, i, 1))
	}
	for _, i := range []int{2, 0, 3, 1} {
		back(t, p, h[i], api.OK)
	}
	frees(t, p, 6)
	lends(t, p, 1, 2)
	three := lends(t, p, 3, 2)
	back(t, p, three, api.OK)
	lends(t, p, 3, 3)
	lends(t, p, 0, 2)
	lends(t, p, 2, 2)
	lends(t, p, 4, 1)
	lends(t, p, 5, 1)
	full(t, p)
}

// Every order in which five buffers come back is, reversed, that in which they are lent.
func TestEachOrderOfReturns(t *testing.T) {
	permute([]int{0, 1, 2, 3, 4}, func(order []int) {
		p := create(t, 5, 1)
		for i := range 5 {
			lends(t, p, i, 1)
		}
		for n, i := range order {
			back(t, p, Handle{I: i, Gen: 1}, api.OK)
			frees(t, p, n+1)
		}
		for n := range order {
			lends(t, p, order[4-n], 2)
		}
		full(t, p)
	})
}

// permute visits the orders of numbers.
func permute(a []int, visit func(order []int)) {
	var choose func(at int)
	choose = func(at int) {
		if at == len(a) {
			visit(a)
		}
		for i := at; i < len(a); i++ {
			a[at], a[i] = a[i], a[at]
			choose(at + 1)
			a[at], a[i] = a[i], a[at]
		}
	}
	choose(0)
}

func TestFullAndFreeAgain(t *testing.T) {
	p := create(t, 3, 1)
	for i := range 3 {
		lends(t, p, i, 1)
	}
	for gen := uint32(1); gen < 20; gen++ {
		full(t, p)
		frees(t, p, 0)
		back(t, p, Handle{I: 1, Gen: gen}, api.OK)
		frees(t, p, 1)
		lends(t, p, 1, gen+1)
	}
}

func TestLentAgainIsEmpty(t *testing.T) {
	p := create(t, 2, 4)
	for gen := uint32(1); gen < 50; gen++ {
		h := lends(t, p, 0, gen)
		holds(t, p, h, nil)
		set(t, p, h, []byte("full"), api.OK)
		holds(t, p, h, []byte("full"))
		back(t, p, h, api.OK)
	}
}

func TestHandlesThatAreNotValid(t *testing.T) {
	p := create(t, 3, 4)
	a := lends(t, p, 0, 1)
	back(t, p, a, api.OK)
	a = lends(t, p, 0, 2)
	b := lends(t, p, 1, 1)
	set(t, p, a, []byte("a"), api.OK)
	set(t, p, b, []byte("b"), api.OK)
	for name, h := range map[string]Handle{
		"none":                               {},
		"an earlier generation":              {I: 0, Gen: 1},
		"a later generation":                 {I: 0, Gen: 3},
		"the last generation":                {I: 0, Gen: math.MaxUint32},
		"another one's generation":           {I: 1, Gen: 2},
		"generation 0 of what is lent":       {I: 1},
		"what is free":                       {I: 2, Gen: 1},
		"generation 0 of what was not lent":  {I: 2},
		"just past the end":                  {I: 3, Gen: 1},
		"just past the end, of generation 0": {I: 3},
		"past the end":                       {I: 4096, Gen: 1},
		"far past the end":                   {I: math.MaxInt, Gen: 1},
		"past the end of 32 bits":            {I: 1 << 32, Gen: 2},
		"below 0":                            {I: -1, Gen: 1},
		"below 0, of generation 0":           {I: -1},
		"far below 0":                        {I: math.MinInt, Gen: 2},
		"what is lent, from the end":         {I: -2, Gen: 1},
		"what is lent, past 32 bits below 0": {I: -(1 << 32), Gen: 2},
	} {
		stale(t, p, h)
		if t.Failed() {
			t.Fatalf("%s", name)
		}
		frees(t, p, 1)
		holds(t, p, a, []byte("a"))
		holds(t, p, b, []byte("b"))
	}
	lends(t, p, 2, 1)
}

func TestGivenBackTwice(t *testing.T) {
	p := create(t, 2, 4)
	a, b := lends(t, p, 0, 1), lends(t, p, 1, 1)
	back(t, p, a, api.OK)
	for range 3 {
		stale(t, p, a)
		frees(t, p, 1)
	}
	again := lends(t, p, 0, 2)
	stale(t, p, a)
	full(t, p)
	back(t, p, b, api.OK)
	back(t, p, again, api.OK)
	stale(t, p, a)
	stale(t, p, b)
	stale(t, p, again)
	frees(t, p, 2)
}

// P4.2

func TestSetOfEachLength(t *testing.T) {
	whole := []byte("0123456789")
	for size := 1; size <= 9; size++ {
		p := create(t, 1, size)
		h := lends(t, p, 0, 1)
		for n := range len(whole) + 1 {
			if n <= size {
				set(t, p, h, whole[:n], api.OK)
				holds(t, p, h, whole[:n])
			} else {
				set(t, p, h, whole[:n], api.ErrLong)
				holds(t, p, h, whole[:size])
			}
		}
	}
}

func TestSetOfTheGreatestSizes(t *testing.T) {
	b := make([]byte, 2*api.MaxFrame)
	rand.New(rand.NewSource(1)).Read(b)
	for _, size := range []int{100, 1024, api.MaxFrame - 1, api.MaxFrame} {
		p := create(t, 2, size)
		h := lends(t, p, 0, 1)
		for _, n := range []int{size - 1, size, 1, size} {
			set(t, p, h, b[:n], api.OK)
			holds(t, p, h, b[:n])
		}
		for _, n := range []int{size + 1, 2 * size, len(b)} {
			if n > size {
				set(t, p, h, b[:n], api.ErrLong)
				holds(t, p, h, b[:size])
			}
		}
	}
}

// What was set last is all that a buffer has, whatever its length.
func TestSetAgain(t *testing.T) {
	p := create(t, 1, 4)
	h := lends(t, p, 0, 1)
	for _, s := range []string{"abcd", "x", "", "yz", "\x00\x00\x00\x00", "\xff", "", "abc"} {
		set(t, p, h, []byte(s), api.OK)
		holds(t, p, h, []byte(s))
		holds(t, p, h, []byte(s))
	}
	set(t, p, h, nil, api.OK)
	holds(t, p, h, nil)
	set(t, p, h, []byte("abcd"), api.OK)
	set(t, p, h, []byte{}, api.OK)
	holds(t, p, h, []byte{})
}

func TestOrderOfErrors(t *testing.T) {
	var none *Pool
	p := create(t, 2, 4)
	h := lends(t, p, 0, 1)
	long := []byte("abcde")
	set(t, p, h, long, api.ErrLong)
	set(t, none, h, long, api.ErrNil)
	set(t, none, Handle{I: -1}, long, api.ErrNil)
	for _, x := range []Handle{{I: -1}, {I: 2, Gen: 1}, {I: 1}, {I: 1, Gen: 1}, {I: 0, Gen: 2}, {}} {
		set(t, p, x, long, api.ErrStale)
	}
	back(t, p, h, api.OK)
	set(t, p, h, long, api.ErrStale)
	holds(t, p, lends(t, p, 0, 2), nil)
}

func TestNil(t *testing.T) {
	var p *Pool
	for _, h := range []Handle{{}, {Gen: 1}, {I: -1}, {I: math.MaxInt, Gen: math.MaxUint32}} {
		back(t, p, h, api.ErrNil)
		set(t, p, h, nil, api.ErrNil)
		set(t, p, h, []byte("x"), api.ErrNil)
		if got, e := p.Bytes(h); len(got) != 0 || e != api.ErrNil {
			t.Errorf("Bytes: %q, %v", got, e)
		}
	}
	if h, e := p.Get(); h != (Handle{}) || e != api.ErrNil {
		t.Errorf("Get: %v, %v", h, e)
	}
	frees(t, p, 0)
}

// A pool that no call created has no buffers.
func TestZeroPool(t *testing.T) {
	var p Pool
	full(t, &p)
	stale(t, &p, Handle{})
	stale(t, &p, Handle{Gen: 1})
	frees(t, &p, 0)
}

// P4.3

// No handle is lent twice, and none is valid again after it was given back.
func TestHandlesAreLentOnce(t *testing.T) {
	p := create(t, 3, 1)
	source := rand.New(rand.NewSource(2))
	lent := []Handle{}
	seen := map[Handle]bool{}
	for range 2000 {
		if h, e := p.Get(); e == api.OK {
			if seen[h] {
				t.Fatalf("%v is lent again", h)
			}
			seen[h] = true
			lent = append(lent, h)
		}
		if i := source.Intn(4); i < len(lent) {
			back(t, p, lent[i], api.OK)
			lent = slices.Delete(lent, i, i+1)
		}
		frees(t, p, 3-len(lent))
	}
	for h := range seen {
		if !slices.Contains(lent, h) {
			stale(t, p, h)
		}
	}
}

// The generation wraps around after 2^32 lendings, and 0 is one like the others.
func TestGenerationsWrapAround(t *testing.T) {
	p := create(t, 1, 1)
	p.buffers[0].gen = math.MaxUint32 - 1
	for _, gen := range []uint32{math.MaxUint32, 0, 1, 2} {
		h := lends(t, p, 0, gen)
		stale(t, p, Handle{Gen: gen - 1})
		stale(t, p, Handle{Gen: gen + 1})
		set(t, p, h, []byte{byte(gen)}, api.OK)
		holds(t, p, h, []byte{byte(gen)})
		back(t, p, h, api.OK)
		stale(t, p, h)
	}
}

func TestNeighboursStayAsTheyAre(t *testing.T) {
	for _, size := range []int{1, 2, 7, 64} {
		p := create(t, 5, size)
		want := make([][]byte, 5)
		for i := range want {
			want[i] = bytes.Repeat([]byte{byte('a' + i)}, size)
			set(t, p, lends(t, p, i, 1), want[i], api.OK)
		}
		for i := range want {
			h := Handle{I: i, Gen: 1}
			for _, n := range []int{0, 1, size, size + 1, 3 * size, 5 * size, size} {
				b := bytes.Repeat([]byte{byte('0' + i)}, n)
				if p.Set(h, b) == api.OK {
					want[i] = b
				}
				for j := range want {
					holds(t, p, Handle{I: j, Gen: 1}, want[j])
				}
			}
		}
	}
}

// Nor does giving back and lending again change what others hold.
func TestNeighboursOfWhatIsLentAgain(t *testing.T) {
	p := create(t, 3, 2)
	for i := range 3 {
		set(t, p, lends(t, p, i, 1), []byte{'a', byte(i)}, api.OK)
	}
	back(t, p, Handle{I: 1, Gen: 1}, api.OK)
	holds(t, p, Handle{I: 0, Gen: 1}, []byte{'a', 0})
	holds(t, p, Handle{I: 2, Gen: 1}, []byte{'a', 2})
	h := lends(t, p, 1, 2)
	set(t, p, h, []byte("bb"), api.OK)
	set(t, p, h, []byte("bbb"), api.ErrLong)
	holds(t, p, Handle{I: 0, Gen: 1}, []byte{'a', 0})
	holds(t, p, Handle{I: 2, Gen: 1}, []byte{'a', 2})
}

// R2, R3

// scribble writes to bytes, and to their spare capacity.
func scribble(b []byte) {
	b = b[:cap(b)]
	for i := range b {
		b[i] = 0x55
	}
}

func TestSetLeavesItsArgument(t *testing.T) {
	for n := range 6 {
		p := create(t, 2, 4)
		h := lends(t, p, 0, 1)
		whole := []byte("0123456789")
		e := p.Set(h, whole[:n])
		want, _ := p.Bytes(h)
		scribble(whole[:n])
		holds(t, p, h, want)
		copy(whole, "0123456789")
		p.Set(h, []byte("next"))
		back(t, p, h, api.OK)
		set(t, p, lends(t, p, 0, 2), []byte("last"), api.OK)
		if string(whole) != "0123456789" {
			t.Errorf("%d bytes, %v: the argument was changed: %q", n, e, whole)
		}
	}
}

func TestBytesAreNewMemory(t *testing.T) {
	p := create(t, 3, 8)
	for i := range 3 {
		lends(t, p, i, 1)
	}
	h := Handle{I: 1, Gen: 1}
	for _, s := range []string{"", "a", "some", "allofthem"[:8]} {
		set(t, p, h, []byte(s), api.OK)
		first, _ := p.Bytes(h)
		second, _ := p.Bytes(h)
		scribble(first)
		if string(second) != s {
			t.Errorf("two results share memory: %q, want %q", second, s)
		}
		holds(t, p, h, []byte(s))
		holds(t, p, Handle{I: 0, Gen: 1}, nil)
		holds(t, p, Handle{I: 2, Gen: 1}, nil)
		set(t, p, h, []byte("another!"), api.OK)
		if string(second) != s {
			t.Errorf("the result shows what was set later: %q, want %q", second, s)
		}
		holds(t, p, h, []byte("another!"))
	}
}

func TestBytesStayWhenItIsGivenBack(t *testing.T) {
	p := create(t, 1, 4)
	h := lends(t, p, 0, 1)
	set(t, p, h, []byte("kept"), api.OK)
	got, _ := p.Bytes(h)
	back(t, p, h, api.OK)
	set(t, p, lends(t, p, 0, 2), []byte("next"), api.OK)
	if string(got) != "kept" {
		t.Errorf("%q", got)
	}
}

// What was written to a result's spare capacity is not in a buffer that is filled again.
func TestResultOfAShorterOneIsApart(t *testing.T) {
	p := create(t, 2, 4)
	a, b := lends(t, p, 0, 1), lends(t, p, 1, 1)
	set(t, p, b, []byte("next"), api.OK)
	set(t, p, a, []byte("x"), api.OK)
	got, _ := p.Bytes(a)
	_ = append(got, "spoilt it"...)
	scribble(got)
	holds(t, p, a, []byte("x"))
	holds(t, p, b, []byte("next"))
}

// Two pools have nothing in common: one's handle says of the other one only what its own numbers say.
func TestPoolsAreApart(t *testing.T) {
	p, q := create(t, 2, 4), create(t, 2, 4)
	h := lends(t, p, 0, 1)
	set(t, p, h, []byte("p"), api.OK)
	frees(t, q, 2)
	stale(t, q, h)
	set(t, q, lends(t, q, 0, 1), []byte("q"), api.OK)
	holds(t, p, h, []byte("p"))
	holds(t, q, h, []byte("q"))
	back(t, q, h, api.OK)
	holds(t, p, h, []byte("p"))
	frees(t, p, 1)
	frees(t, q, 2)
}

// P1: whatever is called, in any order, a pool is as the chapter tells it.

// told is a pool as the chapter tells it: which are free, in the order of their return, and what each that is lent has.
type told struct {
	size  int
	free  []int
	times map[int]uint32
	lent  map[Handle][]byte
}

func tell(n, size int) *told {
	m := &told{size: size, times: map[int]uint32{}, lent: map[Handle][]byte{}}
	for i := n - 1; i >= 0; i-- {
		m.free = append(m.free, i)
	}
	return m
}

func (m *told) get() (Handle, api.Errno) {
	if len(m.free) == 0 {
		return Handle{}, api.ErrFull
	}
	i := m.free[len(m.free)-1]
	m.free = m.free[:len(m.free)-1]
	m.times[i]++
	h := Handle{I: i, Gen: m.times[i]}
	m.lent[h] = []byte{}
	return h, api.OK
}

func (m *told) back(h Handle) api.Errno {
	if m.lent[h] == nil {
		return api.ErrStale
	}
	delete(m.lent, h)
	m.free = append(m.free, h.I)
	return api.OK
}

func (m *told) set(h Handle, b []byte) api.Errno {
	if m.lent[h] == nil {
		return api.ErrStale
	}
	if len(b) > m.size {
		return api.ErrLong
	}
	m.lent[h] = append([]byte{}, b...)
	return api.OK
}

func (m *told) bytes(h Handle) ([]byte, api.Errno) {
	b := m.lent[h]
	if b == nil {
		return nil, api.ErrStale
	}
	return b, api.OK
}

// step does the same with both; a handle may be any near the pool's.
func step(t *testing.T, p *Pool, m *told, do, i, gen, length byte) {
	t.Helper()
	h := Handle{I: int(int8(i)), Gen: uint32(gen)}
	switch do % 4 {
	case 0:
		got, e := p.Get()
		if want, f := m.get(); got != want || e != f {
			t.Fatalf("Get: %v, %v, want %v, %v", got, e, want, f)
		}
	case 1:
		back(t, p, h, m.back(h))
	case 2:
		b := bytes.Repeat([]byte{do}, int(length)%(m.size+2))
		set(t, p, h, b, m.set(h, b))
	case 3:
		got, e := p.Bytes(h)
		if want, f := m.bytes(h); !bytes.Equal(got, want) || e != f {
			t.Fatalf("Bytes of %v: %q, %v, want %q, %v", h, got, e, want, f)
		}
	}
	frees(t, p, len(m.free))
	for h, b := range m.lent {
		holds(t, p, h, b)
	}
}

func TestAnySteps(t *testing.T) {
	source := rand.New(rand.NewSource(3))
	for range 300 {
		n, size := 1+source.Intn(5), 1+source.Intn(6)
		p, m := create(t, n, size), tell(n, size)
		for range 200 {
			i := source.Intn(n+2) - 1
			gen := source.Intn(int(m.times[i]) + 2)
			if source.Intn(3) > 0 {
				gen = int(m.times[i])
			}
			step(t, p, m, byte(source.Intn(256)), byte(i), byte(gen), byte(source.Intn(256)))
		}
		if t.Failed() {
			t.Fatalf("New(%d, %d)", n, size)
		}
	}
}

// FuzzSteps does any steps, four bytes each.
func FuzzSteps(f *testing.F) {
	f.Add(2, 4, []byte{})
	f.Add(2, 4, []byte{0, 0, 0, 0, 2, 0, 1, 4, 3, 0, 1, 0, 1, 0, 1, 0, 1, 0, 1, 0, 0, 0, 0, 0})
	f.Add(0, 1, []byte{0, 0, 0, 0})
	f.Add(1, api.MaxFrame+1, []byte{0, 0, 0, 0})
	f.Fuzz(func(t *testing.T, n, size int, steps []byte) {
		p, e := New(n, size)
		m := tell(0, 0)
		if n >= 1 && n <= 4096 && size >= 1 && size <= api.MaxFrame {
			if p == nil || e != api.OK {
				t.Fatalf("New(%d, %d): %v", n, size, e)
			}
			m = tell(n, size)
		} else if p != nil || e != api.ErrArg {
			t.Fatalf("New(%d, %d): %v", n, size, e)
		}
		for ; p != nil && len(steps) >= 4; steps = steps[4:] {
			step(t, p, m, steps[0], steps[1], steps[2], steps[3])
		}
	})
}
