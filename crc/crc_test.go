package crc

import (
	"bytes"
	"hash/crc32"
	"math"
	"math/rand"
	"slices"
	"testing"
)

var castagnoli = crc32.MakeTable(crc32.Castagnoli)

// told is the checksum as the chapter tells it, bit by bit.
func told(b []byte) uint32 {
	sum := uint32(math.MaxUint32)
	for _, c := range b {
		sum ^= uint32(c)
		for range 8 {
			out := sum & 1
			sum >>= 1
			if out == 1 {
				sum ^= 0x82f63b78
			}
		}
	}
	return ^sum
}

func random(source *rand.Rand, size int) []byte {
	b := make([]byte, size)
	source.Read(b)
	return b
}

// samples are bytes of several lengths: none, all of zeros, all of ones, and random ones.
func samples() [][]byte {
	source := rand.New(rand.NewSource(1))
	out := [][]byte{nil}
	for _, size := range []int{1, 2, 3, 4, 5, 7, 8, 9, 15, 16, 17, 31, 32, 33, 64, 100} {
		out = append(out, make([]byte, size), bytes.Repeat([]byte{0xff}, size), random(source, size))
	}
	return out
}

// invert inverts the bits from a place on: all for which the pattern has a 1. Places are in the order in which bits are shifted out, the lowest of a byte first.
func invert(b []byte, place int, pattern uint32) []byte {
	out := slices.Clone(b)
	for i := range 32 {
		if pattern>>i&1 == 1 {
			out[(place+i)/8] ^= 1 << ((place + i) % 8)
		}
	}
	return out
}

// P2.1

func TestKnownSums(t *testing.T) {
	up, down := make([]byte, 32), make([]byte, 32)
	for i := range 32 {
		up[i], down[31-i] = byte(i), byte(i)
	}
	for _, x := range []struct {
		name string
		b    []byte
		want uint32
	}{
		{"nil", nil, 0},
		{"no bytes", []byte{}, 0},
		{"the nine digits", []byte("123456789"), 0xe3069283},
		{"a", []byte("a"), 0xc1d04330},
		{"a zero byte", []byte{0}, 0x527d5351},
		{"32 zero bytes", make([]byte, 32), 0x8a9136aa},
		{"32 bytes of ones", bytes.Repeat([]byte{0xff}, 32), 0x62a8ab43},
		{"32 increasing bytes", up, 0x46dd794e},
		{"32 decreasing bytes", down, 0x113fdb5c},
	} {
		if got := Sum(x.b); got != x.want {
			t.Errorf("%s: %08x, want %08x", x.name, got, x.want)
		}
	}
}

// agrees tells whether a sum is the one that the chapter tells, and the library's.
func agrees(t *testing.T, b []byte) {
	t.Helper()
	if got, want := Sum(b), told(b); got != want {
		t.Errorf("%d bytes, from %x on: %08x, want %08x", len(b), b[:min(len(b), 8)], got, want)
	}
	if got, want := Sum(b), crc32.Checksum(b, castagnoli); got != want {
		t.Errorf("%d bytes, from %x on: %08x, the library has %08x", len(b), b[:min(len(b), 8)], got, want)
	}
}

func TestSumIsAsTold(t *testing.T) {
	for a := range 256 {
		agrees(t, []byte{byte(a)})
		for b := range 256 {
			agrees(t, []byte{byte(a), byte(b)})
		}
	}
	source := rand.New(rand.NewSource(2))
	for size := range 300 {
		agrees(t, random(source, size))
	}
	for _, size := range []int{1023, 1024, 1025, 65535, 65536, 65537, 1 << 20} {
		agrees(t, random(source, size))
	}
}

func TestMoreAtEachPlace(t *testing.T) {
	digits := []byte("123456789")
	for i := range len(digits) + 1 {
		if got := More(Sum(digits[:i]), digits[i:]); got != 0xe3069283 {
			t.Errorf("the nine digits, split at %d: %08x", i, got)
		}
	}
	for _, b := range samples() {
		want := Sum(b)
		for i := range len(b) + 1 {
			for _, j := range []int{i, (i + len(b)) / 2, len(b)} {
				if got := More(More(Sum(b[:i]), b[i:j]), b[j:]); got != want {
					t.Errorf("%x, split at %d and %d: %08x, want %08x", b, i, j, got, want)
				}
			}
		}
	}
}

func TestMoreByteByByte(t *testing.T) {
	for _, b := range samples() {
		sum := Sum(nil)
		for i := range b {
			sum = More(sum, b[i:i+1])
		}
		if want := Sum(b); sum != want {
			t.Errorf("%x, byte by byte: %08x, want %08x", b, sum, want)
		}
	}
}

// sums are numbers that may be sums, each of which is that of some four bytes.
func sums() []uint32 {
	source := rand.New(rand.NewSource(3))
	out := []uint32{0, 1, math.MaxUint32, 0x80000000, 0x7fffffff, 0x82f63b78, 0xe3069283}
	for bit := range 32 {
		out = append(out, 1<<bit, ^uint32(1<<bit), source.Uint32())
	}
	return out
}

func TestMoreOfNoBytes(t *testing.T) {
	for _, sum := range sums() {
		if More(sum, nil) != sum || More(sum, []byte{}) != sum {
			t.Errorf("%08x, continued with no bytes: %08x, %08x", sum, More(sum, nil), More(sum, []byte{}))
		}
	}
}

func TestMoreOfAnySum(t *testing.T) {
	for _, sum := range sums() {
		for _, b := range samples() {
			if got, want := More(sum, b), crc32.Update(sum, castagnoli, b); got != want {
				t.Errorf("%08x, continued with %x: %08x, want %08x", sum, b, got, want)
			}
		}
	}
}

// P2.2

func TestOneBitInverted(t *testing.T) {
	for _, b := range samples() {
		want := Sum(b)
		for place := range 8 * len(b) {
			if Sum(invert(b, place, 1)) == want {
				t.Errorf("%x: the bit at %d is inverted, the sum remains %08x", b, place, want)
			}
		}
	}
	long := random(rand.New(rand.NewSource(4)), 1<<16)
	want := Sum(long)
	for _, place := range []int{0, 7, 8, 4*len(long) - 1, 4 * len(long), 8*len(long) - 8, 8*len(long) - 1} {
		if Sum(invert(long, place, 1)) == want {
			t.Errorf("%d bytes: the bit at %d is inverted, the sum remains %08x", len(long), place, want)
		}
	}
}

func TestConsecutiveBitsChanged(t *testing.T) {
	source := rand.New(rand.NewSource(5))
	for _, b := range samples() {
		want := Sum(b)
		for width := 1; width <= min(32, 8*len(b)); width++ {
			for place := range 8*len(b) - width + 1 {
				ends := uint32(1) | 1<<(width-1)
				inside := uint32(1<<width - 1)
				for _, pattern := range []uint32{ends, inside, ends | source.Uint32()&inside} {
					if Sum(invert(b, place, pattern)) == want {
						t.Errorf("%x: the bits %08x from %d on are inverted, the sum remains %08x", b, pattern, place, want)
					}
				}
			}
		}
	}
}

// independent tells whether no exclusive or of some of the numbers is 0.
func independent(numbers []uint32) bool {
	var leads [32]uint32
	for _, n := range numbers {
		for bit := 31; bit >= 0 && n != 0; bit-- {
			if n>>bit&1 == 0 {
				continue
			}
			if leads[bit] == 0 {
				leads[bit] = n
				break
			}
			n ^= leads[bit]
		}
		if n == 0 {
			return false
		}
	}
	return true
}

// Inverted bits change a sum each in a way of its own, whatever the others: of 32 consecutive ones, all 2^32 - 1 patterns are tried if the ways are independent.
func TestEachPatternOf32Bits(t *testing.T) {
	for _, b := range samples() {
		for place := range 8*len(b) - 31 {
			var ways []uint32
			for i := range 32 {
				ways = append(ways, Sum(b)^Sum(invert(b, place+i, 1)))
			}
			if !independent(ways) {
				t.Errorf("%x: some of the 32 bits from %d on can be inverted, and the sum remains", b, place)
			}
		}
	}
}

func TestSumOfThree(t *testing.T) {
	source := rand.New(rand.NewSource(6))
	for size := range 200 {
		a, b, c := random(source, size), random(source, size), random(source, size)
		all := make([]byte, size)
		for i := range all {
			all[i] = a[i] ^ b[i] ^ c[i]
		}
		if got, want := Sum(a)^Sum(b)^Sum(c), Sum(all); got != want {
			t.Errorf("%d bytes: the exclusive or of three sums is %08x, the sum of the exclusive or %08x", size, got, want)
		}
	}
}

// R2, R3

func TestArgumentStays(t *testing.T) {
	whole := []byte("123456789 and what is behind it")
	before := slices.Clone(whole)
	for range 2 {
		if got := Sum(whole[:9]); got != 0xe3069283 {
			t.Errorf("Sum: %08x", got)
		}
		if got := More(Sum(whole[:4]), whole[4:9]); got != 0xe3069283 {
			t.Errorf("More: %08x", got)
		}
		if !bytes.Equal(whole, before) {
			t.Fatalf("the argument was changed: %q", whole)
		}
	}
}

// P1: whatever the sum and the bytes, every call ends and none panics.
func FuzzMore(f *testing.F) {
	f.Add(uint32(0), []byte("123456789"))
	f.Add(uint32(math.MaxUint32), []byte{})
	f.Add(uint32(0x82f63b78), []byte{0, 0xff, 0x80, 1})
	f.Fuzz(func(t *testing.T, sum uint32, b []byte) {
		agrees(t, b)
		if got, want := More(sum, b), crc32.Update(sum, castagnoli, b); got != want {
			t.Errorf("%08x, continued with %x: %08x, want %08x", sum, b, got, want)
		}
	})
}
