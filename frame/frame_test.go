package frame

import (
	"bytes"
	"encoding/binary"
	"hash/crc32"
	"math/rand"
	"slices"
	"strings"
	"testing"

	"quorate/api"
)

var castagnoli = crc32.MakeTable(crc32.Castagnoli)

// told is a frame as the chapter tells it, of any bytes, also of those that may not have one.
func told(inside []byte) []byte {
	out := binary.AppendUvarint(nil, uint64(len(inside)))
	out = binary.LittleEndian.AppendUint32(out, crc32.Checksum(inside, castagnoli))
	return append(out, inside...)
}

func random(source *rand.Rand, size int) []byte {
	b := make([]byte, size)
	source.Read(b)
	return b
}

// samples are contents of the lengths at which the length's form gets longer, with their neighbours, up to the greatest.
func samples() [][]byte {
	source := rand.New(rand.NewSource(1))
	out := [][]byte{[]byte("a"), []byte("bc"), {0}, {0xff, 0xff}}
	for _, size := range []int{1, 5, 126, 127, 128, 129, 255, 256, 16383, 16384, 16385, api.MaxFrame - 1, api.MaxFrame} {
		out = append(out, make([]byte, size), bytes.Repeat([]byte{0xff}, size), random(source, size))
	}
	return out
}

// short are the samples of which each cut and each bit can be tried.
func short() [][]byte {
	return slices.DeleteFunc(samples(), func(b []byte) bool { return len(b) > 256 })
}

func put(t *testing.T, b, inside []byte) []byte {
	t.Helper()
	out, e := Put(b, inside)
	if e != api.OK {
		t.Fatalf("Put of %d bytes: %v", len(inside), e)
	}
	return out
}

// brief is the beginning of bytes, for a message.
func brief(b []byte) []byte { return b[:min(len(b), 16)] }

// takes tells whether Take has these results; beside an error the others are zero.
func takes(t *testing.T, b, inside []byte, size int, want api.Errno) {
	t.Helper()
	got, n, e := Take(b)
	if !bytes.Equal(got, inside) || n != size || e != want {
		t.Errorf("Take of %d bytes, %x..: %x.., %d, %v, want %x.., %d, %v", len(b), brief(b), brief(got), n, e, brief(inside), size, want)
	}
}

func refuses(t *testing.T, b []byte, want api.Errno) {
	t.Helper()
	takes(t, b, nil, 0, want)
}

// alls tells whether All has these results.
func alls(t *testing.T, b []byte, insides [][]byte, end int, want api.Errno) {
	t.Helper()
	got, n, e := All(b)
	if !slices.EqualFunc(got, insides, bytes.Equal) || n != end || e != want {
		t.Errorf("All of %d bytes, %x..: %d frames, %d, %v, want %d, %d, %v", len(b), brief(b), len(got), n, e, len(insides), end, want)
	}
}

// P3.1

func TestPutExample(t *testing.T) {
	if got := put(t, nil, []byte("a")); string(got) != "\x01\x30\x43\xd0\xc1a" {
		t.Errorf("the frame of a: %x", got)
	}
	if got := put(t, []byte("xy"), []byte("a")); string(got) != "xy\x01\x30\x43\xd0\xc1a" {
		t.Errorf("xy and the frame of a: %x", got)
	}
}

func TestPutIsAsTold(t *testing.T) {
	for _, inside := range samples() {
		for _, b := range []string{"", "x", "before it"} {
			want := append([]byte(b), told(inside)...)
			if got := put(t, []byte(b), inside); !bytes.Equal(got, want) {
				t.Errorf("%q and %d bytes: %x.., want %x..", b, len(inside), brief(got), brief(want))
			}
		}
	}
}

func TestPutOfEachLength(t *testing.T) {
	whole := random(rand.New(rand.NewSource(2)), 1000)
	for n := 1; n <= len(whole); n++ {
		if got, want := put(t, nil, whole[:n]), told(whole[:n]); !bytes.Equal(got, want) {
			t.Fatalf("%d bytes: %x.., want %x..", n, brief(got), brief(want))
		}
	}
}

func TestPutRefuses(t *testing.T) {
	for _, inside := range [][]byte{nil, {}, make([]byte, api.MaxFrame+1), make([]byte, 2*api.MaxFrame), make([]byte, 1<<20)} {
		for _, b := range []string{"", "x", "before it"} {
			if got, e := Put([]byte(b), inside); string(got) != b || e != api.ErrLong {
				t.Errorf("%q and %d bytes: %x.., %v", b, len(inside), brief(got), e)
			}
		}
	}
	if got, e := Put(nil, nil); len(got) != 0 || e != api.ErrLong {
		t.Errorf("nothing and nothing: %x, %v", got, e)
	}
}

func TestPutOfNilAndEmptyBytes(t *testing.T) {
	if a, b := put(t, nil, []byte("s")), put(t, []byte{}, []byte("s")); !bytes.Equal(a, b) {
		t.Errorf("%x behind nil, %x behind no bytes", a, b)
	}
}

// P3.2

func TestTakeExamples(t *testing.T) {
	takes(t, []byte("\x01\x30\x43\xd0\xc1a"), []byte("a"), 6, api.OK)
	refuses(t, []byte("\x01\x30\x43\xd0\xc1"), api.ErrShort)
	refuses(t, []byte("\x01\x30\x43\xd0\xc1b"), api.ErrSum)
	refuses(t, []byte("\x00"), api.ErrForm)
}

func TestTakeIsWhatWasPut(t *testing.T) {
	for _, inside := range samples() {
		b := put(t, nil, inside)
		takes(t, b, inside, len(b), api.OK)
		takes(t, told(inside), inside, len(b), api.OK)
	}
}

func TestTakeErrors(t *testing.T) {
	nine := strings.Repeat("\xff", 9)
	some := strings.Repeat("s", 200)
	for _, x := range []struct {
		name, b string
		e       api.Errno
	}{
		{"no bytes", "", api.ErrShort},
		{"an end within the length", "\x80", api.ErrShort},
		{"an end within the length, of three bytes", "\x80\x80", api.ErrShort},
		{"an end within a length that is too great", "\x80\x80\x80", api.ErrShort},
		{"an end within the longest length", nine, api.ErrShort},
		{"a length of 0", "\x00", api.ErrForm},
		{"a length of 0, and its sum", "\x00\x00\x00\x00\x00", api.ErrForm},
		{"a length of 0, and more", "\x00\x30\x43\xd0\xc1a", api.ErrForm},
		{"a length of 1, of two bytes", "\x81\x00\x30\x43\xd0\xc1a", api.ErrForm},
		{"a length of 1, of three bytes", "\x81\x80\x00\x30\x43\xd0\xc1a", api.ErrForm},
		{"a length of 0, of two bytes", "\x80\x00\x00\x00\x00\x00", api.ErrForm},
		{"a length of 1, of two bytes, and nothing", "\x81\x00", api.ErrForm},
		{"a length of MaxFrame + 1, and nothing", "\x81\x80\x04", api.ErrForm},
		{"a length of MaxFrame + 1, and some bytes", "\x81\x80\x04" + some, api.ErrForm},
		{"a length of 2 MaxFrame", "\x80\x80\x08" + some, api.ErrForm},
		{"a length of 2^32 + 1", "\x81\x80\x80\x80\x10\x30\x43\xd0\xc1a", api.ErrForm},
		{"a length of 2^63", strings.Repeat("\x80", 9) + "\x01" + some, api.ErrForm},
		{"a length of 2^64 - 1", nine + "\x01" + some, api.ErrForm},
		{"a length of 2^64", strings.Repeat("\x80", 9) + "\x02" + some, api.ErrForm},
		{"a length beyond 64 bits, and nothing", nine + "\x02", api.ErrForm},
		{"a length of eleven bytes", nine + "\x81\x01" + some, api.ErrForm},
		{"a length that never ends", strings.Repeat("\xff", 40), api.ErrForm},
		{"no sum", "\x01", api.ErrShort},
		{"an end within the sum", "\x01\x30\x43\xd0", api.ErrShort},
		{"an end within another sum", "\x01\xff\xff\xff", api.ErrShort},
		{"no contents", "\x01\xff\xff\xff\xff", api.ErrShort},
		{"an end within the contents", "\x05\xff\xff\xff\xffabcd", api.ErrShort},
		{"a length of MaxFrame, and nothing", "\x80\x80\x04", api.ErrShort},
		{"a length of MaxFrame, and some bytes", "\x80\x80\x04" + some, api.ErrShort},
		{"another sum", "\x01\x00\x00\x00\x00a", api.ErrSum},
		{"the sum, the highest byte first", "\x01\xc1\xd0\x43\x30a", api.ErrSum},
		{"other contents", "\x01\x30\x43\xd0\xc1b", api.ErrSum},
		{"another sum, and more", "\x01\x30\x43\xd0\xc0a" + some, api.ErrSum},
	} {
		got, n, e := Take([]byte(x.b))
		if len(got) != 0 || n != 0 || e != x.e {
			t.Errorf("%s: %x.., %d, %v, want %v", x.name, brief(got), n, e, x.e)
		}
	}
}

// A length, or no contents, for which there is no frame: neither is read, though the sum is right and all bytes are there.
func TestTakeOfFramesThatMayNotBe(t *testing.T) {
	refuses(t, told(nil), api.ErrForm)
	refuses(t, told(make([]byte, api.MaxFrame+1)), api.ErrForm)
	refuses(t, told(make([]byte, 2*api.MaxFrame)), api.ErrForm)
	inside := random(rand.New(rand.NewSource(3)), api.MaxFrame)
	takes(t, told(inside), inside, 3+4+api.MaxFrame, api.OK)
}

// The length in each longer form: never read, whatever follows.
func TestTakeOfLongerForms(t *testing.T) {
	for _, inside := range short() {
		form := binary.AppendUvarint(nil, uint64(len(inside)))
		rest := told(inside)[len(form):]
		for range 11 - len(form) {
			form[len(form)-1] |= 0x80
			form = append(form, 0)
			refuses(t, append(slices.Clone(form), rest...), api.ErrForm)
			refuses(t, form, api.ErrForm)
		}
	}
}

// Of two errors the one that the promise names first.
func TestTakeOrderOfErrors(t *testing.T) {
	sum := "\xee\xee\xee\xee" // of nothing here
	for _, x := range []struct {
		name, b string
		e       api.Errno
	}{
		{"too great, but not told completely", "\xff\xff\xff", api.ErrShort},
		{"0, but not told completely", "\x80\x80", api.ErrShort},
		{"not the shortest, and too great a one", "\xff\xff\xff\x00", api.ErrForm},
		{"too great, and cut", "\xff\xff\x7f" + sum, api.ErrForm},
		{"too great, and another sum", "\x81\x80\x04" + sum + strings.Repeat("a", api.MaxFrame+1), api.ErrForm},
		{"0, and cut", "\x00\xee", api.ErrForm},
		{"0, and another sum", "\x00" + sum, api.ErrForm},
		{"cut, and another sum", "\x02" + sum + "a", api.ErrShort},
		{"another sum alone", "\x02" + sum + "ab", api.ErrSum},
	} {
		if got, n, e := Take([]byte(x.b)); len(got) != 0 || n != 0 || e != x.e {
			t.Errorf("%s: Take: %x.., %d, %v, want %v", x.name, brief(got), n, e, x.e)
		}
		if got, n, e := All([]byte(x.b)); len(got) != 0 || n != 0 || e != x.e {
			t.Errorf("%s: All: %d frames, %d, %v, want %v", x.name, len(got), n, e, x.e)
		}
	}
}

// P3.3

// sequence is the frames of contents, one after another, and where each ends.
func sequence(t *testing.T, insides [][]byte) (b []byte, ends []int) {
	t.Helper()
	ends = []int{0}
	for _, inside := range insides {
		b = put(t, b, inside)
		ends = append(ends, len(b))
	}
	return b, ends
}

func TestAllOfNoBytes(t *testing.T) {
	alls(t, nil, nil, 0, api.OK)
	alls(t, []byte{}, nil, 0, api.OK)
}

func TestAllOfNoFrame(t *testing.T) {
	alls(t, []byte("\x09"), nil, 0, api.ErrShort)
	alls(t, []byte("\x00"), nil, 0, api.ErrForm)
	alls(t, []byte("\x81\x00"), nil, 0, api.ErrForm)
	alls(t, []byte("\x01\x30\x43\xd0\xc1b"), nil, 0, api.ErrSum)
	alls(t, told(make([]byte, api.MaxFrame+1)), nil, 0, api.ErrForm)
}

func TestAllOfEachCount(t *testing.T) {
	insides := samples()
	b, ends := sequence(t, insides)
	for i, end := range ends {
		alls(t, b[:end], insides[:i], end, api.OK)
	}
}

func TestAllOfMany(t *testing.T) {
	insides := make([][]byte, 5000)
	var b []byte
	for i := range insides {
		insides[i] = []byte{byte(i), byte(i >> 8)}
		b = append(b, told(insides[i])...)
	}
	alls(t, b, insides, len(b), api.OK)
}

// behind are bytes that are no frame, with the error for each.
func behind() map[string]api.Errno {
	return map[string]api.Errno{
		"\x09":                         api.ErrShort,
		"\x80":                         api.ErrShort,
		"\x01\x30\x43":                 api.ErrShort,
		"\x02\x30\x43\xd0\xc1a":        api.ErrShort,
		"\x00":                         api.ErrForm,
		"\x00\x01\x30\x43\xd0\xc1a":    api.ErrForm,
		"\x81\x00\x30\x43\xd0\xc1a":    api.ErrForm,
		"\xff\xff\x7f":                 api.ErrForm,
		"\x01\x30\x43\xd0\xc1b":        api.ErrSum,
		"\x01\x31\x43\xd0\xc1a and on": api.ErrSum,
	}
}

func TestAllFollowedByOtherBytes(t *testing.T) {
	insides := short()
	b, ends := sequence(t, insides)
	for other, e := range behind() {
		for i, end := range ends {
			alls(t, append(slices.Clone(b[:end]), other...), insides[:i], end, e)
		}
	}
}

// What follows an error is not read, though it would be a frame.
func TestAllEndsAtFirstError(t *testing.T) {
	good := string(told([]byte("good")))
	for other, e := range behind() {
		if e != api.ErrShort {
			alls(t, []byte(good+other+good), [][]byte{[]byte("good")}, len(good), e)
		}
	}
}

func TestAllCutAnywhere(t *testing.T) {
	insides := [][]byte{[]byte("a"), random(rand.New(rand.NewSource(4)), 200), []byte("bc")}
	b, ends := sequence(t, insides)
	for cut := range len(b) + 1 {
		i, whole := slices.BinarySearch(ends, cut)
		if whole {
			alls(t, b[:cut], insides[:i], cut, api.OK)
		} else {
			alls(t, b[:cut], insides[:i-1], ends[i-1], api.ErrShort)
		}
	}
}

func TestAllWithABitInverted(t *testing.T) {
	insides := [][]byte{[]byte("a"), []byte("second"), []byte("bc")}
	b, ends := sequence(t, insides)
	for i := range insides {
		for place := 8 * (ends[i] + 1); place < 8*ends[i+1]; place++ {
			alls(t, invert(b, place), insides[:i], ends[i], api.ErrSum)
		}
	}
}

// P3.4

func invert(b []byte, place int) []byte {
	out := slices.Clone(b)
	out[place/8] ^= 1 << (place % 8)
	return out
}

func TestReadOneByOne(t *testing.T) {
	insides := samples()
	for other := range behind() {
		b, _ := sequence(t, insides)
		b = append(b, other...)
		for _, inside := range insides {
			got, n, e := Take(b)
			if !bytes.Equal(got, inside) || e != api.OK {
				t.Fatalf("%x.., %d, %v, want %x..", brief(got), n, e, brief(inside))
			}
			b = b[n:]
		}
		if string(b) != other {
			t.Errorf("%x.. is left, want %x", brief(b), other)
		}
	}
}

func TestTakeWhateverFollows(t *testing.T) {
	source := rand.New(rand.NewSource(5))
	for _, inside := range short() {
		b := put(t, nil, inside)
		for c := range 256 {
			takes(t, append(slices.Clone(b), byte(c)), inside, len(b), api.OK)
		}
		for size := range 40 {
			takes(t, append(slices.Clone(b), random(source, size)...), inside, len(b), api.OK)
		}
	}
}

func TestOneBitInverted(t *testing.T) {
	for _, inside := range short() {
		b := put(t, nil, inside)
		for place := 8 * (len(b) - len(inside) - 4); place < 8*len(b); place++ {
			refuses(t, invert(b, place), api.ErrSum)
		}
	}
	b := put(t, nil, random(rand.New(rand.NewSource(6)), api.MaxFrame))
	for _, place := range []int{8 * 3, 8*7 - 1, 8 * 7, 4 * len(b), 8*len(b) - 1} {
		refuses(t, invert(b, place), api.ErrSum)
	}
}

func TestCutAnywhere(t *testing.T) {
	for _, inside := range short() {
		b := put(t, nil, inside)
		for cut := range b {
			refuses(t, b[:cut], api.ErrShort)
		}
	}
	b := put(t, nil, random(rand.New(rand.NewSource(7)), api.MaxFrame))
	for _, cut := range []int{0, 1, 2, 3, 4, 6, 7, 8, len(b) / 2, len(b) - 2, len(b) - 1} {
		refuses(t, b[:cut], api.ErrShort)
	}
}

// R2, R3

// roomy is bytes with spare capacity that must stay as it is.
func roomy(b []byte) (part, whole []byte) {
	whole = append(slices.Clone(b), bytes.Repeat([]byte{0xee}, 40)...)
	return whole[:len(b):len(whole)], whole
}

// scribble writes to bytes, and to their spare capacity.
func scribble(b []byte) {
	b = b[:cap(b)]
	for i := range b {
		b[i] = 0x55
	}
}

func TestPutLeavesItsArguments(t *testing.T) {
	for _, size := range []int{0, 1, 5, api.MaxFrame, api.MaxFrame + 1} {
		b, wholeB := roomy([]byte("abc"))
		inside, wholeInside := roomy(bytes.Repeat([]byte("i"), size))
		beforeB, beforeInside := slices.Clone(wholeB), slices.Clone(wholeInside)
		first, e := Put(b, inside)
		want := slices.Clone(first)
		scribble(first)
		if !bytes.Equal(wholeB, beforeB) || !bytes.Equal(wholeInside, beforeInside) {
			t.Errorf("%d bytes: an argument was changed, or shares memory with the result", size)
		}
		if again, f := Put(b, inside); !bytes.Equal(again, want) || f != e {
			t.Errorf("%d bytes: %x.., %v, and again %x.., %v", size, brief(want), e, brief(again), f)
		}
	}
}

// Both arguments may be the same memory.
func TestPutOfBytesBehindThemselves(t *testing.T) {
	b, _ := roomy([]byte("abc"))
	if got, want := put(t, b, b), append([]byte("abc"), told([]byte("abc"))...); !bytes.Equal(got, want) {
		t.Errorf("%x, want %x", got, want)
	}
}

func TestTakeLeavesItsArgument(t *testing.T) {
	b, whole := roomy(told([]byte("inside")))
	before := slices.Clone(whole)
	got, _, _ := Take(b)
	scribble(got)
	if !bytes.Equal(whole, before) {
		t.Errorf("the argument was changed, or shares memory with the result: %x", whole)
	}
	takes(t, b, []byte("inside"), len(b), api.OK)
	got, _, _ = Take(b)
	scribble(whole)
	if string(got) != "inside" {
		t.Errorf("the result shows what was written to the argument later: %q", got)
	}
}

func TestAllLeavesItsArgument(t *testing.T) {
	want := [][]byte{[]byte("a"), []byte("bc"), []byte("defghijkl")}
	frames, _ := sequence(t, want)
	for other, e := range behind() {
		b, whole := roomy(append(slices.Clone(frames), other...))
		before := slices.Clone(whole)
		got, _, _ := All(b)
		for i := range got {
			scribble(got[i])
			for j := i + 1; j < len(got); j++ {
				if !bytes.Equal(got[j], want[j]) {
					t.Errorf("the contents %d and %d share memory", i, j)
				}
			}
		}
		if !bytes.Equal(whole, before) {
			t.Errorf("the argument was changed, or shares memory with the result: %x", whole)
		}
		alls(t, b, want, len(frames), e)
		got, _, _ = All(b)
		scribble(whole)
		if !slices.EqualFunc(got, want, bytes.Equal) {
			t.Errorf("the result shows what was written to the argument later: %q", got)
		}
	}
}

// P1: whatever the bytes, every call ends, none panics, and Take and All agree.

// takeEach is All, by Take.
func takeEach(b []byte) (insides [][]byte, end int, e api.Errno) {
	for end < len(b) {
		inside, n, e := Take(b[end:])
		if e != api.OK {
			return insides, end, e
		}
		insides = append(insides, inside)
		end += n
	}
	return insides, end, api.OK
}

// FuzzRead reads any bytes, and writes again what it read.
func FuzzRead(f *testing.F) {
	f.Add([]byte{})
	f.Add([]byte("\x01\x30\x43\xd0\xc1a"))
	f.Add([]byte("\x01\x30\x43\xd0\xc1a\x01\x30\x43\xd0\xc1a\x09"))
	for other := range behind() {
		f.Add(append(told([]byte("some")), other...))
	}
	f.Fuzz(func(t *testing.T, b []byte) {
		insides, end, e := takeEach(b)
		alls(t, b, insides, end, e)
		if e == api.OK && end != len(b) {
			t.Errorf("OK, but at %d of %d", end, len(b))
		}
		if again, _ := sequence(t, insides); !bytes.Equal(again, b[:end]) {
			t.Errorf("%x was read, and is written as %x", b[:end], again)
		}
	})
}

// FuzzPut writes any bytes, and reads them.
func FuzzPut(f *testing.F) {
	f.Add([]byte{}, []byte{})
	f.Add([]byte("x"), []byte("a"))
	f.Fuzz(func(t *testing.T, b, inside []byte) {
		got, e := Put(b, inside)
		if len(inside) == 0 || len(inside) > api.MaxFrame {
			if e != api.ErrLong || !bytes.Equal(got, b) {
				t.Errorf("%x, %v", got, e)
			}
			return
		}
		if want := append(slices.Clone(b), told(inside)...); e != api.OK || !bytes.Equal(got, want) {
			t.Errorf("%x, %v, want %x", got, e, want)
		}
		takes(t, got[len(b):], inside, len(got)-len(b), api.OK)
	})
}
