package crc_test

import (
	"strings"
	"testing"

	"almonry/crc"
)

// mix is the promise's number, which the tests hold against sums that are known.
const mix = 0x82f63b78

// someSums are the least numbers and the greatest ones, and others between.
var someSums = []uint32{
	0, 1, 2, 0xff, 0x100, 0x7fffffff, 0x80000000, 0x80000001, 0xfffffffe, 0xffffffff,
	mix, ^uint32(mix), 0xe3069283, 0xdeadbeef,
}

// someTexts are of several lengths, and of bytes of each kind.
var someTexts = []string{
	"", "\x00", "\xff", "a", "123456789", "n\u00e9", "\u20ac\ufffd", "\xff\xfe\x80",
	strings.Repeat("\x00", 40), strings.Repeat("\xff", 40), fill(100), fill(257),
}

// fill is n bytes that are unlike for each n.
func fill(n int) string {
	out := make([]byte, n)
	for i := range out {
		out[i] = byte(7*i + n)
	}
	return string(out)
}

// with is s, but with b at a place.
func with(s string, place int, b byte) string {
	return s[:place] + string([]byte{b}) + s[place+1:]
}

// plain is promise 4.1 over again, the register's bits one by one, the lowest first.
func plain(s string) uint32 {
	var register [32]bool
	for i := range register {
		register[i] = true
	}
	for _, b := range []byte(s) {
		for i := range 8 {
			register[i] = register[i] != (b>>i&1 == 1)
		}
		for range 8 {
			out := register[0]
			copy(register[:], register[1:])
			register[31] = false
			for i := range register {
				register[i] = register[i] != (out && mix>>i&1 == 1)
			}
		}
	}
	var sum uint32
	for i, bit := range register {
		if !bit {
			sum |= 1 << i
		}
	}
	return sum
}

// textOf is the text of four bytes of which sum is the Sum: the register is gone back through 32 bits, and held against the first one.
func textOf(sum uint32) string {
	register := ^sum
	for range 32 {
		// The highest bit is 1 only where the bit that went out was 1.
		if register>>31 == 1 {
			register = (register^mix)<<1 | 1
		} else {
			register <<= 1
		}
	}
	x := ^register
	return string([]byte{byte(x), byte(x >> 8), byte(x >> 16), byte(x >> 24)})
}

// sums fails unless Sum answers want.
func sums(t *testing.T, s string, want uint32) {
	t.Helper()
	if got := crc.Sum(s); got != want {
		t.Errorf("Sum of %d bytes, %.20q, = %08x; want %08x", len(s), s, got, want)
	}
}

// adds fails unless Add answers want.
func adds(t *testing.T, sum uint32, s string, want uint32) {
	t.Helper()
	if got := crc.Add(sum, s); got != want {
		t.Errorf("Add(%08x, %d bytes, %.20q) = %08x; want %08x", sum, len(s), s, got, want)
	}
}

// Promise 4.1: Sum.

func TestSum(t *testing.T) {
	var rising, falling []byte
	for n := range 32 {
		rising, falling = append(rising, byte(n)), append(falling, byte(31-n))
	}
	for _, c := range []struct {
		s    string
		want uint32
	}{
		{"", 0},
		{"123456789", 0xe3069283},
		{"a", 0xc1d04330},
		{"abc", 0x364b3fb7},
		{"The quick brown fox jumps over the lazy dog", 0x22620404},
		{"n\u00e9", 0x456fea6b},
		{"\u20ac\ufffd", 0xbd5329e3},
		{"\xff\xfe\x80", 0xc3d60f5e},
		{string(rising), 0x46dd794e},
		{string(falling), 0x113fdb5c},
		{strings.Repeat("\x5a", 70000), 0xaf8032b4},
	} {
		sums(t, c.s, c.want)
	}
}

func TestSumOfEachByte(t *testing.T) {
	for b, want := range map[string]uint32{
		"\x00": 0x527d5351, "\x01": 0xa016d052, "\x7f": 0x7df63b78, "\x80": 0xd08b6829, "\xff": 0xff000000,
	} {
		sums(t, b, want)
	}
	seen := map[uint32]int{}
	for n := range 256 {
		b := string([]byte{byte(n)})
		sums(t, b, plain(b))
		if m, ok := seen[crc.Sum(b)]; ok {
			t.Errorf("the bytes %d and %d have one sum", m, n)
		}
		seen[crc.Sum(b)] = n
	}
}

func TestSumOfRowsOfOneByte(t *testing.T) {
	for _, c := range []struct {
		n                int
		zeros, greatests uint32
	}{
		{0, 0, 0},
		{1, 0x527d5351, 0xff000000},
		{2, 0xf16177d2, 0xffff0000},
		{3, 0x6064a37a, 0xffffff00},
		{4, 0x48674bc7, 0xffffffff},
		{5, 0x45727635, 0x5282acae},
		{8, 0x8c28b28a, 0x48674bc7},
		{16, 0x42709aea, 0xef2f4c10},
		{31, 0x1ed37c4b, 0x36b1a3cf},
		{32, 0x8a9136aa, 0x62a8ab43},
		{33, 0x9b5e5ff9, 0xad4946e3},
		{64, 0x03c8eb67, 0x2fcd4e66},
		{100, 0x07cb9ff6, 0xbc753add},
		{255, 0x15c51a99, 0x2611b2e3},
		{256, 0xb872b190, 0x0f464a5c},
		{1000, 0xd84dda57, 0x7b72068d},
		{4096, 0x98f94189, 0x25c1fe13},
		{70000, 0xf663ad8c, 0x61d50003},
	} {
		sums(t, strings.Repeat("\x00", c.n), c.zeros)
		sums(t, strings.Repeat("\xff", c.n), c.greatests)
	}
	for n := range 300 {
		for _, b := range []string{"\x00", "\xff"} {
			row := strings.Repeat(b, n)
			sums(t, row, plain(row))
		}
	}
}

// Noughts ahead or behind are bytes like others: how many there are is told.
func TestSumTellsHowManyNoughtsThereAre(t *testing.T) {
	seen := map[uint32]int{}
	for n := range 300 {
		sum := crc.Sum(strings.Repeat("\x00", n))
		if m, ok := seen[sum]; ok {
			t.Errorf("%d noughts and %d have one sum", m, n)
		}
		seen[sum] = n
	}
	if crc.Sum("\x00abc") == crc.Sum("abc") || crc.Sum("abc\x00") == crc.Sum("abc") {
		t.Error("a nought ahead or behind changes no sum")
	}
}

func TestSumOfEachLength(t *testing.T) {
	for n := range 300 {
		sums(t, fill(n), plain(fill(n)))
	}
}

// What is torn is known: a run of changes that is no longer than the register never leaves the sum as it was.
func TestAnotherByteMakesAnotherSum(t *testing.T) {
	for _, s := range []string{"\x00", "123456789", fill(64), strings.Repeat("\x00", 33), strings.Repeat("\xff", 33)} {
		whole := crc.Sum(s)
		for place := range len(s) {
			for n := range 256 {
				other := with(s, place, byte(n))
				if other != s && crc.Sum(other) == whole {
					t.Errorf("%.20q has the sum of %.20q", other, s)
				}
			}
		}
	}
}

func TestAnotherByteOfALongTextMakesAnotherSum(t *testing.T) {
	s := fill(70000)
	whole := crc.Sum(s)
	for _, place := range []int{0, 1, 255, 256, 4095, 4096, 34999, 35000, 65535, 65536, 69998, 69999} {
		for _, mask := range []byte{1, 2, 0x10, 0x80, 0xff} {
			if crc.Sum(with(s, place, s[place]^mask)) == whole {
				t.Errorf("another byte at %d leaves the sum as it was", place)
			}
		}
	}
}

func TestLessOfATextHasAnotherSum(t *testing.T) {
	s := fill(100)
	whole := crc.Sum(s)
	for n := range len(s) {
		if crc.Sum(s[:n]) == whole {
			t.Errorf("the first %d bytes have the sum of the whole", n)
		}
	}
}

// Promise 4.1: Add.

func TestAddOfNoBytesIsTheSum(t *testing.T) {
	for _, sum := range someSums {
		adds(t, sum, "", sum)
	}
	for _, s := range someTexts {
		adds(t, crc.Sum(s), "", crc.Sum(s))
	}
}

func TestAddToTheSumOfNoBytes(t *testing.T) {
	adds(t, crc.Sum(""), "123456789", 0xe3069283)
	for _, s := range someTexts {
		adds(t, crc.Sum(""), s, plain(s))
		adds(t, 0, s, plain(s))
	}
}

func TestAddGoesOnFromEachPlace(t *testing.T) {
	for _, s := range append([]string{fill(300)}, someTexts...) {
		for place := range len(s) + 1 {
			adds(t, crc.Sum(s[:place]), s[place:], plain(s))
		}
	}
	adds(t, crc.Sum("1234"), "56789", 0xe3069283)
}

func TestAddGoesOnFromAdd(t *testing.T) {
	for _, s := range someTexts {
		sum := crc.Sum("")
		for place := range len(s) {
			sum = crc.Add(sum, s[place:place+1])
			if want := plain(s[:place+1]); sum != want {
				t.Errorf("byte by byte, %d bytes of %.20q have the sum %08x; want %08x", place+1, s, sum, want)
			}
		}
	}
}

// The order of the parts is told.
func TestAddIsNotTheSumTheOtherWayRound(t *testing.T) {
	if crc.Add(crc.Sum("1234"), "56789") == crc.Add(crc.Sum("56789"), "1234") {
		t.Error("the parts the other way round have one sum")
	}
}

func TestAddToAnyNumber(t *testing.T) {
	for _, c := range []struct{ sum, nought, greatest, digits uint32 }{
		{0x00000000, 0x527d5351, 0xff000000, 0xe3069283},
		{0x00000001, 0xa016d052, 0x0d6b8303, 0x173844cb},
		{0x00000002, 0xb34623a6, 0x1e3b70f7, 0x0e9748e2},
		{0x7fffffff, 0xff7fffff, 0x5202acae, 0xbb14b209},
		{0x80000000, 0x52fd5351, 0xff800000, 0xff0e2555},
		{0xfffffffe, 0x0d947cfc, 0xa0e92fad, 0x5322d397},
		{0xffffffff, 0xffffffff, 0x5282acae, 0xa71c05df},
		{0x82f63b78, 0xa9bea9a8, 0x04c3faf9, 0x9919f9a7},
		{0xe3069283, 0xc3389d4f, 0x6e45ce1e, 0xa86c53f4},
		{0xdeadbeef, 0xef806ad1, 0x42fd3980, 0xdd05f9cd},
	} {
		adds(t, c.sum, "\x00", c.nought)
		adds(t, c.sum, "\xff", c.greatest)
		adds(t, c.sum, "123456789", c.digits)
	}
}

// Each number is the Sum of some text of four bytes: Add goes on from there.
func TestEachNumberIsASum(t *testing.T) {
	for _, sum := range someSums {
		ahead := textOf(sum)
		if plain(ahead) != sum {
			t.Fatalf("%q has not the sum %08x", ahead, sum)
		}
		sums(t, ahead, sum)
		for _, s := range someTexts {
			adds(t, sum, s, plain(ahead+s))
		}
	}
}

func TestTheSameIsToldAgain(t *testing.T) {
	for _, s := range someTexts {
		sum, more := crc.Sum(s), crc.Add(0xdeadbeef, s)
		crc.Sum(s + "x")
		crc.Add(1, "x")
		if crc.Sum(s) != sum || crc.Add(0xdeadbeef, s) != more {
			t.Errorf("of %.20q, Sum or Add told another thing the second time", s)
		}
	}
}

// Whatever there is, its sum is that of the promise's words, and Add goes on from its beginning, and from any number.
func FuzzAddGoesOn(f *testing.F) {
	for i, s := range someTexts {
		f.Add(someSums[i], s, len(s)/2)
	}
	f.Fuzz(func(t *testing.T, sum uint32, s string, place int) {
		if place < 0 || place > len(s) {
			place = len(s)
		}
		sums(t, s, plain(s))
		adds(t, crc.Sum(s[:place]), s[place:], plain(s))
		adds(t, sum, s, plain(textOf(sum)+s))
	})
}
