package varint

import (
	"bytes"
	"encoding/binary"
	"math"
	"math/rand"
	"slices"
	"strings"
	"testing"

	"quorate/api"
)

const noLimit = math.MaxInt

// numbers are those at which a form gets one byte longer, with their neighbours, and random ones of each length in bits.
func numbers() []uint64 {
	out := []uint64{0, math.MaxUint64, math.MaxInt64, math.MaxUint32, 300}
	source := rand.New(rand.NewSource(1))
	for bit := range 64 {
		p := uint64(1) << bit
		out = append(out, p-1, p, p+1, p|source.Uint64()&(p-1))
	}
	return out
}

func texts() []string {
	return []string{"", "a", "ab", "\x00\xff\x80", "é", strings.Repeat("x", 127), strings.Repeat("y", 128), strings.Repeat("z", 20000)}
}

// roomy is bytes with spare capacity that holds what must stay as it is.
func roomy(s string) (b, whole []byte) {
	whole = append([]byte(s), bytes.Repeat([]byte{0xee}, 40)...)
	return whole[:len(s):len(whole)], whole
}

// P1.1

func TestUintBytes(t *testing.T) {
	for n, want := range map[uint64]string{
		0:              "\x00",
		1:              "\x01",
		127:            "\x7f",
		128:            "\x80\x01",
		300:            "\xac\x02",
		16383:          "\xff\x7f",
		16384:          "\x80\x80\x01",
		1<<63 - 1:      "\xff\xff\xff\xff\xff\xff\xff\xff\x7f",
		1 << 63:        "\x80\x80\x80\x80\x80\x80\x80\x80\x80\x01",
		math.MaxUint64: "\xff\xff\xff\xff\xff\xff\xff\xff\xff\x01",
	} {
		if got := string(Uint(nil, n)); got != want {
			t.Errorf("Uint(%d) = %x, want %x", n, got, want)
		}
	}
	for _, n := range numbers() {
		if got, want := Uint([]byte("ab"), n), binary.AppendUvarint([]byte("ab"), n); !bytes.Equal(got, want) {
			t.Errorf("Uint(ab, %d) = %x, want %x", n, got, want)
		}
	}
}

func TestIntBytes(t *testing.T) {
	for n, want := range map[int64]string{
		0:             "\x00",
		-1:            "\x01",
		1:             "\x02",
		-2:            "\x03",
		63:            "\x7e",
		-64:           "\x7f",
		64:            "\x80\x01",
		-65:           "\x81\x01",
		math.MaxInt64: "\xfe\xff\xff\xff\xff\xff\xff\xff\xff\x01",
		math.MinInt64: "\xff\xff\xff\xff\xff\xff\xff\xff\xff\x01",
	} {
		if got := string(Int(nil, n)); got != want {
			t.Errorf("Int(%d) = %x, want %x", n, got, want)
		}
	}
	for _, u := range numbers() {
		for _, n := range []int64{int64(u), -int64(u)} {
			if got, want := Int([]byte("ab"), n), binary.AppendVarint([]byte("ab"), n); !bytes.Equal(got, want) {
				t.Errorf("Int(ab, %d) = %x, want %x", n, got, want)
			}
		}
	}
}

func TestTextBytes(t *testing.T) {
	if got := string(Text(nil, "ab")); got != "\x02ab" {
		t.Errorf("Text(ab) = %x", got)
	}
	if got := string(Text(nil, "")); got != "\x00" {
		t.Errorf("Text() = %x", got)
	}
	for _, s := range texts() {
		want := string(binary.AppendUvarint([]byte("q"), uint64(len(s)))) + s
		if got := string(Text([]byte("q"), s)); got != want {
			t.Errorf("Text(q, %d bytes) differs", len(s))
		}
	}
}

func TestNilAndEmptyBytesAreTheSame(t *testing.T) {
	empty := []byte{}
	if !bytes.Equal(Uint(nil, 5), Uint(empty, 5)) || !bytes.Equal(Int(nil, 5), Int(empty, 5)) || !bytes.Equal(Text(nil, "s"), Text(empty, "s")) {
		t.Error("a nil list is written to otherwise than an empty one")
	}
	a, b := NewReader(nil, 9), NewReader(empty, 9)
	if a.Done() != api.OK || b.Done() != api.OK || a.Uint() != 0 || b.Uint() != 0 || a.Err() != api.ErrShort || b.Err() != api.ErrShort {
		t.Error("a nil list is read otherwise than an empty one")
	}
}

// R3

func TestArgumentsStay(t *testing.T) {
	for name, put := range map[string]func(b []byte) []byte{
		"Uint": func(b []byte) []byte { return Uint(b, 300) },
		"Int":  func(b []byte) []byte { return Int(b, -300) },
		"Text": func(b []byte) []byte { return Text(b, "text") },
	} {
		b, whole := roomy("abc")
		before := slices.Clone(whole)
		first := put(b)
		want := slices.Clone(first)
		if !bytes.Equal(whole, before) {
			t.Errorf("%s changed its argument: %x", name, whole)
		}
		for i := range first[:cap(first)] {
			first[:cap(first)][i] = 0x55
		}
		if !bytes.Equal(whole, before) {
			t.Errorf("the result of %s shares memory with its argument", name)
		}
		if again := put(b); !bytes.Equal(again, want) {
			t.Errorf("%s: %x, and again %x", name, want, again)
		}
	}
}

func TestReaderKeepsNoArgument(t *testing.T) {
	b, whole := roomy("\x07\x02ab")
	before := slices.Clone(whole)
	r := NewReader(b, 9)
	clear(b)
	if r.Uint() != 7 || r.Text() != "ab" || r.Done() != api.OK {
		t.Errorf("the reader saw what was written to its argument later: %v", r.Err())
	}
	copy(b, before)
	r = NewReader(b, 9)
	r.Uint()
	r.Text()
	r.Byte()
	if !bytes.Equal(whole, before) {
		t.Errorf("the reader changed its argument: %x", whole)
	}
}

// P1.2

func TestItemsOneAfterAnother(t *testing.T) {
	r := NewReader([]byte("\xac\x02\x01\x02ab\x07\x00\x80"), 2)
	if n := r.Uint(); n != 300 {
		t.Errorf("Uint: %d", n)
	}
	if n := r.Int(); n != -1 {
		t.Errorf("Int: %d", n)
	}
	if s := r.Text(); s != "ab" {
		t.Errorf("Text: %q", s)
	}
	if c := r.Byte(); c != 7 {
		t.Errorf("Byte: %d", c)
	}
	if s := r.Text(); s != "" || r.Err() != api.OK {
		t.Errorf("an empty text: %q, %v", s, r.Err())
	}
	if c := r.Byte(); c != 0x80 {
		t.Errorf("Byte: %d", c)
	}
	if r.Err() != api.OK || r.Done() != api.OK || r.Done() != api.OK {
		t.Errorf("at the end: %v, %v", r.Err(), r.Done())
	}
}

func TestReadUint(t *testing.T) {
	nine := strings.Repeat("\xff", 9)
	zeros := strings.Repeat("\x80", 9)
	for _, x := range []struct {
		s string
		n uint64
		e api.Errno
	}{
		{"", 0, api.ErrShort},
		{"\x00", 0, api.OK},
		{"\x7f", 127, api.OK},
		{"\x80\x01", 128, api.OK},
		{"\x80", 0, api.ErrShort},
		{"\xff\xff", 0, api.ErrShort},
		{"\x80\x00", 0, api.ErrForm},
		{"\x80\x80\x00", 0, api.ErrForm},
		{"\xff\x00", 0, api.ErrForm},
		{"\x80\x80", 0, api.ErrShort},
		{nine, 0, api.ErrShort},
		{zeros, 0, api.ErrShort},
		{nine + "\x01", math.MaxUint64, api.OK},
		{zeros + "\x01", 1 << 63, api.OK},
		{nine + "\x00", 0, api.ErrForm},
		{nine + "\x02", 0, api.ErrForm},
		{nine + "\x7f", 0, api.ErrForm},
		{nine + "\x80", 0, api.ErrForm},
		{nine + "\x81", 0, api.ErrForm},
		{nine + "\xff", 0, api.ErrForm},
		{zeros + "\x80", 0, api.ErrForm},
		{nine + "\x80\x00", 0, api.ErrForm},
		{nine + "\x81\x01", 0, api.ErrForm},
		{nine + "\x02\x05\x05", 0, api.ErrForm},
		{zeros + zeros, 0, api.ErrForm},
		{nine + nine + nine, 0, api.ErrForm},
	} {
		r := NewReader([]byte(x.s), 9)
		if n := r.Uint(); n != x.n || r.Err() != x.e || r.Done() != x.e {
			t.Errorf("%x: %d, %v, want %d, %v", x.s, n, r.Err(), x.n, x.e)
		}
		r = NewReader([]byte(x.s), 9)
		if r.Int(); r.Err() != x.e {
			t.Errorf("%x as signed: %v, want %v", x.s, r.Err(), x.e)
		}
		r = NewReader([]byte(x.s), -1)
		if s := r.Text(); s != "" || x.e != api.OK && r.Err() != x.e {
			t.Errorf("%x as a length: %q, %v, want %v", x.s, s, r.Err(), x.e)
		}
	}
}

func TestReadText(t *testing.T) {
	for _, x := range []struct {
		b     string
		limit int
		s     string
		e     api.Errno
	}{
		{"", 9, "", api.ErrShort},
		{"\x00", 0, "", api.OK},
		{"\x00", -1, "", api.ErrForm},
		{"\x00", math.MinInt, "", api.ErrForm},
		{"\x01a", -1, "", api.ErrForm},
		{"\x01a", 0, "", api.ErrForm},
		{"\x01", 0, "", api.ErrForm},
		{"\x01a", 1, "a", api.OK},
		{"\x05a", 9, "", api.ErrShort},
		{"\x05", 5, "", api.ErrShort},
		{"\x05abcd", 5, "", api.ErrShort},
		{"\x05abcde", 5, "abcde", api.OK},
		{"\x05abcde", 4, "", api.ErrForm},
		{"\x05a", 4, "", api.ErrForm},
		{"\x05", 4, "", api.ErrForm},
		{"\x02\x80\x00", 9, "\x80\x00", api.OK},
		{"\x81\x00a", 9, "", api.ErrForm},
		{"\x81", 9, "", api.ErrShort},
		{"\xff\xff\xff\xff\xff\xff\xff\xff\xff\x01a", 9, "", api.ErrForm},
		{"\xff\xff\xff\xff\xff\xff\xff\xff\xff\x01a", noLimit, "", api.ErrForm},
		{"\xff\xff\xff\xff\xff\xff\xff\xff\x7fa", math.MaxInt64, "", api.ErrShort},
	} {
		r := NewReader([]byte(x.b), x.limit)
		if s := r.Text(); s != x.s || r.Err() != x.e {
			t.Errorf("%x, limit %d: %q, %v, want %q, %v", x.b, x.limit, s, r.Err(), x.s, x.e)
		}
	}
}

func TestLimitIsForTextsAlone(t *testing.T) {
	r := NewReader([]byte("\xac\x02\x09\xff"), 0)
	if r.Uint() != 300 || r.Int() != -5 || r.Byte() != 255 || r.Done() != api.OK {
		t.Errorf("%v", r.Err())
	}
}

func TestReadByte(t *testing.T) {
	for c := range 256 {
		r := NewReader([]byte{byte(c)}, 0)
		if got := r.Byte(); got != byte(c) || r.Done() != api.OK {
			t.Errorf("%d: %d, %v", c, got, r.Err())
		}
		if got := r.Byte(); got != 0 || r.Err() != api.ErrShort || r.Done() != api.ErrShort {
			t.Errorf("behind the end: %d, %v", got, r.Err())
		}
	}
}

// stuck tells whether an error persists, and nothing is read any more.
func stuck(t *testing.T, name string, r *Reader, e api.Errno) {
	t.Helper()
	for range 2 {
		if n := r.Uint(); n != 0 {
			t.Errorf("%s: Uint %d", name, n)
		}
		if n := r.Int(); n != 0 {
			t.Errorf("%s: Int %d", name, n)
		}
		if s := r.Text(); s != "" {
			t.Errorf("%s: Text %q", name, s)
		}
		if c := r.Byte(); c != 0 {
			t.Errorf("%s: Byte %d", name, c)
		}
		if r.Err() != e || r.Done() != e {
			t.Errorf("%s: %v, %v, want %v", name, r.Err(), r.Done(), e)
		}
	}
}

func TestFirstErrorPersists(t *testing.T) {
	good := "\x01a\x01a\x01a"
	for _, x := range []struct {
		name, b string
		read    func(r *Reader)
		e       api.Errno
	}{
		{"a long form", "\x80\x00" + good, func(r *Reader) { r.Uint() }, api.ErrForm},
		{"a long form of a signed one", "\x80\x00" + good, func(r *Reader) { r.Int() }, api.ErrForm},
		{"a tenth byte above 1", strings.Repeat("\x80", 9) + "\x02" + good, func(r *Reader) { r.Uint() }, api.ErrForm},
		{"a text above the limit", "\x04abcd" + good, func(r *Reader) { r.Text() }, api.ErrForm},
		{"a number that ends", "\x80", func(r *Reader) { r.Uint() }, api.ErrShort},
		{"a text that ends", "\x03\x01\x02", func(r *Reader) { r.Text() }, api.ErrShort},
		{"no byte", "", func(r *Reader) { r.Byte() }, api.ErrShort},
		{"bytes that are left", good, func(r *Reader) { r.Done() }, api.ErrForm},
	} {
		r := NewReader([]byte(x.b), 3)
		x.read(r)
		stuck(t, x.name, r, x.e)
	}
}

func TestBytesThatAreLeft(t *testing.T) {
	r := NewReader([]byte("\x01\x05"), 9)
	if r.Uint() != 1 || r.Err() != api.OK {
		t.Fatalf("%v", r.Err())
	}
	if e := r.Done(); e != api.ErrForm {
		t.Errorf("one byte is left: %v", e)
	}
	stuck(t, "one byte is left", r, api.ErrForm)
	r = NewReader([]byte("\x80"), 9)
	r.Uint()
	if e := r.Done(); e != api.ErrShort {
		t.Errorf("an earlier error: %v", e)
	}
}

func TestNilReader(t *testing.T) {
	stuck(t, "nil", nil, api.ErrNil)
}

func TestReadersAreApart(t *testing.T) {
	b := []byte("\x05\x06")
	r, s := NewReader(b, 9), NewReader(b, 9)
	r.Uint()
	r.Done()
	if s.Uint() != 5 || s.Uint() != 6 || s.Done() != api.OK {
		t.Errorf("one reader's error is seen at another one: %v", s.Err())
	}
}

// P1.3

func TestWrittenIsReadBack(t *testing.T) {
	var b []byte
	ns, ss := numbers(), texts()
	for i, n := range ns {
		b = Uint(b, n)
		b = Int(b, int64(n))
		b = Int(b, -int64(n))
		b = Text(b, ss[i%len(ss)])
		b = append(b, byte(n))
	}
	r := NewReader(b, 20000)
	for i, n := range ns {
		if got := r.Uint(); got != n {
			t.Fatalf("%d: Uint %d", n, got)
		}
		if got := r.Int(); got != int64(n) {
			t.Fatalf("%d: Int %d", int64(n), got)
		}
		if got := r.Int(); got != -int64(n) {
			t.Fatalf("%d: Int %d", -int64(n), got)
		}
		if got := r.Text(); got != ss[i%len(ss)] {
			t.Fatalf("text %d differs", i)
		}
		if got := r.Byte(); got != byte(n) {
			t.Fatalf("%d: Byte %d", byte(n), got)
		}
	}
	if e := r.Done(); e != api.OK {
		t.Errorf("%v", e)
	}
}

// rewritten reads bytes completely as one item, in each way, and tells whether what was read is written as those bytes.
func rewritten(t *testing.T, b []byte) {
	t.Helper()
	for name, again := range map[string]func(r *Reader) []byte{
		"Uint": func(r *Reader) []byte { return Uint(nil, r.Uint()) },
		"Int":  func(r *Reader) []byte { return Int(nil, r.Int()) },
		"Text": func(r *Reader) []byte { return Text(nil, r.Text()) },
	} {
		r := NewReader(b, noLimit)
		if got := again(r); r.Done() == api.OK && !bytes.Equal(got, b) {
			t.Errorf("%s: %x was read, and is written as %x", name, b, got)
		}
	}
}

func TestReadIsWrittenAsItself(t *testing.T) {
	for a := range 256 {
		rewritten(t, []byte{byte(a)})
		for b := range 256 {
			rewritten(t, []byte{byte(a), byte(b)})
			rewritten(t, []byte{byte(a), 0x80, byte(b)})
			rewritten(t, []byte{0x80, byte(a), byte(b)})
			ten := bytes.Repeat([]byte{byte(a) | 0x80}, 10)
			ten[9] = byte(b)
			rewritten(t, ten)
		}
	}
}

// Each byte sequence is the form of one number at most: what is read agrees with the library, but for forms that are not the shortest.
func TestReadAgreesWithLibrary(t *testing.T) {
	source := rand.New(rand.NewSource(2))
	for range 50000 {
		b := make([]byte, source.Intn(12))
		for i := range b {
			b[i] = []byte{0x80, 0xff, 0x81, 0x00, 0x01, byte(source.Intn(256))}[source.Intn(6)]
		}
		want, size := binary.Uvarint(b)
		e := api.OK
		switch {
		case size == 0 && len(b) < 10:
			want, e = 0, api.ErrShort
		case size <= 0, size > 1 && b[size-1] == 0:
			want, e = 0, api.ErrForm
		}
		r := NewReader(b, 9)
		if got := r.Uint(); got != want || r.Err() != e {
			t.Errorf("%x: %d, %v, want %d, %v", b, got, r.Err(), want, e)
		}
	}
}

// P1: whatever the bytes, the limit and the calls, every call ends and none panics.
func FuzzReader(f *testing.F) {
	f.Add([]byte("\xac\x02\x01\x02ab\x07"), 9, []byte{0, 1, 2, 3, 4, 5})
	f.Add([]byte("\xff\xff\xff\xff\xff\xff\xff\xff\xff\x01"), noLimit, []byte{2, 2, 3})
	f.Add([]byte("\x80\x00"), math.MinInt, []byte{2, 4, 0, 1, 3})
	f.Add([]byte{}, 0, []byte{5, 4, 3, 2, 1, 0})
	f.Fuzz(func(t *testing.T, b []byte, limit int, calls []byte) {
		r := NewReader(b, limit)
		for _, c := range calls {
			before := r.Err()
			zero := true
			switch c % 6 {
			case 0:
				zero = r.Uint() == 0
			case 1:
				zero = r.Int() == 0
			case 2:
				zero = r.Text() == ""
			case 3:
				zero = r.Byte() == 0
			case 4:
				r.Err()
			case 5:
				r.Done()
			}
			if before != api.OK && r.Err() != before {
				t.Fatalf("the error %v became %v", before, r.Err())
			}
			if r.Err() != api.OK && !zero {
				t.Fatalf("call %d: a result beside %v", c%6, r.Err())
			}
		}
		rewritten(t, b)
	})
}
