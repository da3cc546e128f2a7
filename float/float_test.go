package float_test

import (
	"fmt"
	"math"
	"slices"
	"strings"
	"testing"

	"almonry/api"
	"almonry/float"
)

// The bits of the edges, which TestTheBitsAreTheEdges holds against the language's own numbers.
const (
	sign        = 1 << 63
	one         = 0x3ff0000000000000
	leastNormal = 0x0010000000000000
	greatest    = 0x7fefffffffffffff
	infinity    = 0x7ff0000000000000
	nan         = 0x7ff8000000000001
)

// edges are the bits of numbers that are their own Clean, in the order in which the chapter lists them, and their Keys.
var edges = []struct {
	name      string
	bits, key uint64
}{
	{"minus infinity", 0xfff0000000000000, 0x000fffffffffffff},
	{"the least finite one", 0xffefffffffffffff, 0x0010000000000000},
	{"the one above it", 0xffeffffffffffffe, 0x0010000000000001},
	{"-2.5", 0xc004000000000000, 0x3ffbffffffffffff},
	{"the one below -1", 0xbff0000000000001, 0x400ffffffffffffe},
	{"-1", 0xbff0000000000000, 0x400fffffffffffff},
	{"the one below the first normal one below 0", 0x8010000000000001, 0x7feffffffffffffe},
	{"the first normal one below 0", 0x8010000000000000, 0x7fefffffffffffff},
	{"the last one that is not normal below 0", 0x800fffffffffffff, 0x7ff0000000000000},
	{"the second one below 0", 0x8000000000000002, 0x7ffffffffffffffd},
	{"the first one below 0", 0x8000000000000001, 0x7ffffffffffffffe},
	{"minus nought", 0x8000000000000000, 0x7fffffffffffffff},
	{"plus nought", 0x0000000000000000, 0x8000000000000000},
	{"the first one above 0", 0x0000000000000001, 0x8000000000000001},
	{"the second one above 0", 0x0000000000000002, 0x8000000000000002},
	{"the last one that is not normal above 0", 0x000fffffffffffff, 0x800fffffffffffff},
	{"the first normal one above 0", 0x0010000000000000, 0x8010000000000000},
	{"the one above the first normal one above 0", 0x0010000000000001, 0x8010000000000001},
	{"1", 0x3ff0000000000000, 0xbff0000000000000},
	{"the one above 1", 0x3ff0000000000001, 0xbff0000000000001},
	{"2.5", 0x4004000000000000, 0xc004000000000000},
	{"the one below the greatest finite one", 0x7feffffffffffffe, 0xffeffffffffffffe},
	{"the greatest finite one", 0x7fefffffffffffff, 0xffefffffffffffff},
	{"infinity", 0x7ff0000000000000, 0xfff0000000000000},
	{"the NaN", 0x7ff8000000000001, 0xfff8000000000001},
}

// otherNaNs are the bits of NaNs that are not the NaN: signalling and quiet ones, with the least and the greatest payload, and each of them with the other sign too.
var otherNaNs = []uint64{
	0x7ff0000000000001, 0x7ff0000000000002, 0x7ff4000000000000, 0x7ff7fffffffffffe, 0x7ff7ffffffffffff,
	0x7ff8000000000000, 0x7ff8000000000002, 0x7ffc000000000000, 0x7ffffffffffffffe, 0x7fffffffffffffff,
	0xfff0000000000001, 0xfff0000000000002, 0xfff4000000000000, 0xfff7fffffffffffe, 0xfff7ffffffffffff,
	0xfff8000000000000, 0xfff8000000000001, 0xfff8000000000002, 0xfffc000000000000, 0xfffffffffffffffe, 0xffffffffffffffff,
}

// number is the one of these bits.
func number(bits uint64) float64 { return math.Float64frombits(bits) }

// numbers are the ones of these bits.
func numbers(bits []uint64) []float64 {
	var out []float64
	for _, b := range bits {
		out = append(out, number(b))
	}
	return out
}

// bitsOf are the bits of each.
func bitsOf(l []float64) []uint64 {
	var out []uint64
	for _, x := range l {
		out = append(out, math.Float64bits(x))
	}
	return out
}

// edgeBits are the bits of the edges alone, in their order.
func edgeBits() []uint64 {
	var out []uint64
	for _, e := range edges {
		out = append(out, e.bits)
	}
	return out
}

// someBits are the edges, the other NaNs, and of either sign numbers of each exponent, with the least, the greatest and a middle fraction.
func someBits() []uint64 {
	out := append(edgeBits(), otherNaNs...)
	for exponent := range uint64(2048) {
		for _, fraction := range []uint64{0, 1, 0x7ffffffffffff, 0x8000000000000, 0x8000000000001, 0xfffffffffffff} {
			bits := exponent<<52 | fraction
			out = append(out, bits, bits|sign)
		}
	}
	return out
}

// cleanBits are the promise's words of Clean, said of bits.
func cleanBits(bits uint64) uint64 {
	if magnitude := bits % sign; magnitude > infinity {
		return nan
	}
	return bits
}

// keyOf is the promise's words of Key, said of bits.
func keyOf(bits uint64) uint64 {
	bits = cleanBits(bits)
	if bits < sign {
		return bits + sign
	}
	return math.MaxUint64 - bits
}

// ofKey is the promise's words of Of: the bits of the number.
func ofKey(k uint64) uint64 {
	if k >= sign {
		return cleanBits(k - sign)
	}
	return cleanBits(math.MaxUint64 - k)
}

// putOf is the promise's words of Put, said of bits.
func putOf(bits uint64) string { return raw(cleanBits(bits)) }

// raw is 8 bytes, the highest first, whatever they are the bits of.
func raw(bits uint64) string {
	out := make([]byte, 8)
	for i := 7; i >= 0; i-- {
		out[i] = byte(bits % 256)
		bits /= 256
	}
	return string(out)
}

// same fails unless x has these bits.
func same(t *testing.T, what string, x float64, want uint64) {
	t.Helper()
	if got := math.Float64bits(x); got != want {
		t.Errorf("%s is the number of %016x; want %016x", what, got, want)
	}
}

// reads fails unless Read answers the number of these bits.
func reads(t *testing.T, s string, want uint64) {
	t.Helper()
	x, err := float.Read(s)
	if err != api.OK {
		t.Errorf("Read(%q) = error %d; want none", s, err)
	}
	same(t, fmt.Sprintf("Read(%q)", s), x, want)
}

// refuses fails unless Read answers the error, and 0, plus nought, beside it.
func refuses(t *testing.T, s string, want api.Errno) {
	t.Helper()
	x, err := float.Read(s)
	if err != want {
		t.Errorf("Read(%.40q) = error %d; want %d", s, err, want)
	}
	same(t, fmt.Sprintf("Read(%.40q)", s), x, 0)
}

// sorts fails unless Sort answers the numbers of these bits, in a list of its own.
func sorts(t *testing.T, l []float64, want []uint64) {
	t.Helper()
	ahead := bitsOf(l)
	got := float.Sort(l)
	if !slices.Equal(bitsOf(got), want) {
		t.Errorf("Sort(%x) = %x; want %x", ahead, bitsOf(got), want)
	}
	for i := range got {
		got[i] = 12345
	}
	if !slices.Equal(bitsOf(l), ahead) {
		t.Errorf("%x is %x behind Sort, or behind what was written to its answer", ahead, bitsOf(l))
	}
}

// mixed is the list in an order that is another one for each step; step and the length have no divisor in common.
func mixed(bits []uint64, step int) []uint64 {
	var out []uint64
	for i := range bits {
		out = append(out, bits[i*step%len(bits)])
	}
	return out
}

func TestTheBitsAreTheEdges(t *testing.T) {
	for _, c := range []struct {
		name string
		x    float64
		bits uint64
	}{
		{"0", 0, 0},
		{"1", 1, one},
		{"the least one above 0", math.SmallestNonzeroFloat64, 1},
		{"the least normal one", 0x1p-1022, leastNormal},
		{"the greatest one", math.MaxFloat64, greatest},
		{"infinity", math.Inf(1), infinity},
	} {
		same(t, c.name, c.x, c.bits)
		same(t, "minus "+c.name, math.Copysign(c.x, -1), c.bits+sign)
	}
	for _, bits := range append([]uint64{nan}, otherNaNs...) {
		if x := number(bits); !math.IsNaN(x) {
			t.Errorf("%016x is no NaN", bits)
		}
	}
	for _, bits := range someBits() {
		if (cleanBits(bits) == bits) != (bits == nan || !math.IsNaN(number(bits))) {
			t.Errorf("%016x is Clean, or not, against its kind", bits)
		}
	}
}

// Promise 5.1: Clean.

func TestCleanLeavesNumbers(t *testing.T) {
	for _, e := range edges {
		same(t, "Clean of "+e.name, float.Clean(number(e.bits)), e.bits)
	}
}

func TestCleanOfANaNIsTheNaN(t *testing.T) {
	for _, bits := range otherNaNs {
		same(t, fmt.Sprintf("Clean of %016x", bits), float.Clean(number(bits)), nan)
	}
	nought := 0.0
	same(t, "Clean of 0 by 0", float.Clean(nought/nought), nan)
	same(t, "Clean of infinity less infinity", float.Clean(math.Inf(1)-math.Inf(1)), nan)
}

func TestCleanOfManyNumbers(t *testing.T) {
	for _, bits := range someBits() {
		clean := float.Clean(number(bits))
		same(t, fmt.Sprintf("Clean of %016x", bits), clean, cleanBits(bits))
		same(t, fmt.Sprintf("Clean of Clean of %016x", bits), float.Clean(clean), cleanBits(bits))
	}
}

// Promise 5.1: Key.

func TestKey(t *testing.T) {
	for _, e := range edges {
		if got := float.Key(number(e.bits)); got != e.key {
			t.Errorf("Key of %s = %016x; want %016x", e.name, got, e.key)
		}
	}
	for x, want := range map[float64]uint64{0: 1 << 63, 1: 0xbff0000000000000, -1: 0x400fffffffffffff, -2.5: 0x3ffbffffffffffff} {
		if got := float.Key(x); got != want {
			t.Errorf("Key(%v) = %016x; want %016x", x, got, want)
		}
	}
}

func TestKeyOfANaNIsTheKeyOfTheNaN(t *testing.T) {
	for _, bits := range otherNaNs {
		if got := float.Key(number(bits)); got != 0xfff8000000000001 {
			t.Errorf("Key of %016x = %016x; want that of the NaN", bits, got)
		}
	}
}

func TestKeyOfManyNumbers(t *testing.T) {
	for _, bits := range someBits() {
		if got := float.Key(number(bits)); got != keyOf(bits) {
			t.Errorf("Key of %016x = %016x; want %016x", bits, got, keyOf(bits))
		}
	}
}

func TestKeysRiseAsTheNumbersDo(t *testing.T) {
	for i, e := range edges[1:] {
		if float.Key(number(edges[i].bits)) >= float.Key(number(e.bits)) {
			t.Errorf("the Key of %s is not below that of %s", edges[i].name, e.name)
		}
	}
	for _, bits := range someBits() {
		x := number(bits)
		above := math.Nextafter(x, math.Inf(1))
		// The next one above minus nought is told as if that were plus nought.
		if above > x && x != 0 && float.Key(above) != float.Key(x)+1 {
			t.Errorf("the Key of the next one above %016x is not the next Key", bits)
		}
	}
}

// Promise 5.1: Of.

func TestOfAKey(t *testing.T) {
	for _, e := range edges {
		same(t, fmt.Sprintf("Of(%016x)", e.key), float.Of(e.key), e.bits)
	}
}

func TestOfTheKeyOfEachNumberIsItsClean(t *testing.T) {
	for _, bits := range someBits() {
		same(t, fmt.Sprintf("Of of Key of %016x", bits), float.Of(float.Key(number(bits))), cleanBits(bits))
	}
}

// No Clean number has one of these Keys: the numbers whose bits they would be are NaNs.
func TestOfWhatIsNoKeyIsTheNaN(t *testing.T) {
	for _, k := range []uint64{
		0, 1, 2, // of minus nought's side: all bits turned
		0x0000000100000000, 0x0003ffffffffffff, 0x0007ffffffffffff,
		0x0007fffffffffffe, // that of the NaN with the other sign would be
		0x0007fffffffffffd, 0x0008000000000000, 0x000bffffffffffff,
		0x000ffffffffffffd, 0x000ffffffffffffe, // next below that of minus infinity
		0xfff0000000000001, 0xfff0000000000002, // next above that of infinity
		0xfff4000000000000, 0xfff7ffffffffffff, 0xfff8000000000000, // next below that of the NaN
		0xfff8000000000002, 0xfff8000000000003, // next above it
		0xfffc000000000000, 0xfffffffffffffffe, 0xffffffffffffffff,
	} {
		same(t, fmt.Sprintf("Of(%016x)", k), float.Of(k), nan)
		if float.Key(float.Of(k)) != 0xfff8000000000001 {
			t.Errorf("the Key of Of(%016x) is not that of the NaN", k)
		}
	}
}

func TestOfAnyNumber(t *testing.T) {
	var keys []uint64
	for bit := range 64 {
		k := uint64(1) << bit
		keys = append(keys, k-1, k, k+1, ^k)
	}
	for _, bits := range someBits() {
		k := keyOf(bits)
		keys = append(keys, bits, k-1, k, k+1)
	}
	for _, k := range keys {
		same(t, fmt.Sprintf("Of(%016x)", k), float.Of(k), ofKey(k))
	}
}

// Promises 5.1 and 5.2: Less.

func TestLessExamples(t *testing.T) {
	minus, inf, none := math.Copysign(0, -1), math.Inf(1), math.NaN()
	for _, c := range []struct {
		a, b float64
		want bool
	}{
		{minus, 0, true}, {0, minus, false}, {0, 0, false}, {minus, minus, false},
		{inf, none, true}, {none, inf, false}, {none, none, false},
		{-inf, none, true}, {none, -inf, false}, {-inf, inf, true}, {inf, -inf, false},
		{1, 2, true}, {2, 1, false}, {-2, -1, true}, {-1, -2, false}, {-1, 1, true}, {1, -1, false}, {1, 1, false},
		{none, 0, false}, {0, none, true},
	} {
		if got := float.Less(c.a, c.b); got != c.want {
			t.Errorf("Less(%v, %v) = %t", c.a, c.b, got)
		}
	}
}

func TestLessOfEachPairOfEdges(t *testing.T) {
	for i, a := range edges {
		for j, b := range edges {
			if got := float.Less(number(a.bits), number(b.bits)); got != (i < j) {
				t.Errorf("Less of %s and %s = %t", a.name, b.name, got)
			}
		}
	}
}

func TestLessOfNaNs(t *testing.T) {
	all := append([]uint64{nan}, otherNaNs...)
	for _, a := range all {
		for _, b := range all {
			if float.Less(number(a), number(b)) {
				t.Errorf("the NaN %016x is Less than %016x", a, b)
			}
		}
		for _, e := range edges[:len(edges)-1] {
			if !float.Less(number(e.bits), number(a)) || float.Less(number(a), number(e.bits)) {
				t.Errorf("%s is not ahead of the NaN %016x", e.name, a)
			}
		}
	}
}

// Of numbers that are not equal as numbers, and no NaNs, Less is the order of numbers.
func TestLessIsTheOrderOfNumbers(t *testing.T) {
	all := numbers(someBits())
	for _, a := range numbers(append(edgeBits(), otherNaNs...)) {
		for _, b := range all {
			if a < b && (!float.Less(a, b) || float.Less(b, a)) {
				t.Errorf("%v is not Less than %v, or the other way round", a, b)
			}
			if keyOf(math.Float64bits(a)) < keyOf(math.Float64bits(b)) != float.Less(a, b) {
				t.Errorf("Less(%v, %v) is not that of their Keys", a, b)
			}
		}
	}
}

// Of two just one is Less, or they are the same when Clean; and of three it goes on.
func TestLessIsATotalOrder(t *testing.T) {
	all := append(edgeBits(), otherNaNs...)
	for _, a := range all {
		for _, b := range all {
			ahead, behind := float.Less(number(a), number(b)), float.Less(number(b), number(a))
			if ahead && behind {
				t.Errorf("%016x and %016x are each Less than the other one", a, b)
			}
			if alike := cleanBits(a) == cleanBits(b); alike == (ahead || behind) {
				t.Errorf("%016x and %016x: the same is %t, Less is %t and %t", a, b, alike, ahead, behind)
			}
			for _, c := range all {
				if ahead && float.Less(number(b), number(c)) && !float.Less(number(a), number(c)) {
					t.Errorf("Less does not go on from %016x by %016x to %016x", a, b, c)
				}
			}
		}
	}
}

// Promise 5.1: Sort.

func TestSortOfNone(t *testing.T) {
	sorts(t, nil, nil)
	sorts(t, []float64{}, nil)
	sorts(t, make([]float64, 0, 4), nil)
}

func TestSortOfOne(t *testing.T) {
	for _, bits := range append(edgeBits(), otherNaNs...) {
		sorts(t, []float64{number(bits)}, []uint64{cleanBits(bits)})
	}
}

func TestSortOfTwo(t *testing.T) {
	all := append(edgeBits(), otherNaNs...)
	for _, a := range all {
		for _, b := range all {
			want := []uint64{cleanBits(a), cleanBits(b)}
			if keyOf(b) < keyOf(a) {
				want[0], want[1] = want[1], want[0]
			}
			sorts(t, []float64{number(a), number(b)}, want)
		}
	}
}

func TestSortOfAFew(t *testing.T) {
	minus := math.Copysign(0, -1)
	sorts(t, []float64{number(0x7ff0000000000001), 0, math.Inf(1), minus, -1},
		[]uint64{0xbff0000000000000, sign, 0, infinity, nan})
	sorts(t, []float64{3, 1, 2}, []uint64{0x3ff0000000000000, 0x4000000000000000, 0x4008000000000000})
	sorts(t, []float64{0, minus, 0, minus, 0}, []uint64{sign, sign, 0, 0, 0})
	sorts(t, numbers([]uint64{0xffffffffffffffff, infinity, nan, 0, 0x7ff8000000000002, infinity + sign}),
		[]uint64{infinity + sign, 0, infinity, nan, nan, nan})
}

func TestSortInEachOrder(t *testing.T) {
	want := edgeBits()
	falling := slices.Clone(want)
	slices.Reverse(falling)
	sorts(t, numbers(want), want)
	sorts(t, numbers(falling), want)
	for place := range want {
		sorts(t, numbers(slices.Concat(want[place:], want[:place])), want)
	}
	for _, step := range []int{2, 3, 7, 11, 13} {
		sorts(t, numbers(mixed(want, step)), want)
		sorts(t, numbers(mixed(falling, step)), want)
	}
}

func TestSortKeepsWhatStandsTwice(t *testing.T) {
	var twice, want []uint64
	for _, e := range edges {
		want = append(want, e.bits, e.bits)
	}
	for range otherNaNs {
		want = append(want, nan)
	}
	twice = slices.Concat(otherNaNs, edgeBits(), edgeBits())
	sorts(t, numbers(twice), want)
	for _, step := range []int{2, 3, 5, 17, 31} {
		sorts(t, numbers(mixed(twice, step)), want)
	}
}

func TestSortOfMany(t *testing.T) {
	bits := someBits()
	var want []uint64
	for _, b := range bits {
		want = append(want, cleanBits(b))
	}
	slices.SortFunc(want, func(a, b uint64) int {
		if keyOf(a) < keyOf(b) {
			return -1
		}
		if keyOf(a) > keyOf(b) {
			return 1
		}
		return 0
	})
	sorts(t, numbers(bits), want)
	slices.Reverse(bits)
	sorts(t, numbers(bits), want)
}

// What stands behind the list, in the memory that it has a part of, is not the list's.
func TestSortLeavesWhatStandsAround(t *testing.T) {
	all := []float64{9, 3, number(otherNaNs[0]), 1, 2, -7}
	ahead := bitsOf(all)
	sorts(t, all[1:4], []uint64{0x3ff0000000000000, 0x4008000000000000, nan})
	more := append(float.Sort(all[1:1]), 5)
	if !slices.Equal(bitsOf(all), ahead) || len(more) != 1 {
		t.Errorf("what stands around is %x; want %x", bitsOf(all), ahead)
	}
}

// Promise 5.1: Put.

func TestPut(t *testing.T) {
	for _, c := range []struct {
		x    float64
		want string
	}{
		{0, "\x00\x00\x00\x00\x00\x00\x00\x00"},
		{math.Copysign(0, -1), "\x80\x00\x00\x00\x00\x00\x00\x00"},
		{1, "\x3f\xf0\x00\x00\x00\x00\x00\x00"},
		{-2.5, "\xc0\x04\x00\x00\x00\x00\x00\x00"},
		{number(0x0123456789abcdef), "\x01\x23\x45\x67\x89\xab\xcd\xef"},
		{math.SmallestNonzeroFloat64, "\x00\x00\x00\x00\x00\x00\x00\x01"},
		{-math.SmallestNonzeroFloat64, "\x80\x00\x00\x00\x00\x00\x00\x01"},
		{0x1p-1022, "\x00\x10\x00\x00\x00\x00\x00\x00"},
		{number(leastNormal - 1), "\x00\x0f\xff\xff\xff\xff\xff\xff"},
		{math.MaxFloat64, "\x7f\xef\xff\xff\xff\xff\xff\xff"},
		{-math.MaxFloat64, "\xff\xef\xff\xff\xff\xff\xff\xff"},
		{math.Inf(1), "\x7f\xf0\x00\x00\x00\x00\x00\x00"},
		{math.Inf(-1), "\xff\xf0\x00\x00\x00\x00\x00\x00"},
		{number(nan), "\x7f\xf8\x00\x00\x00\x00\x00\x01"},
	} {
		if got := float.Put(c.x); got != c.want {
			t.Errorf("Put(%v) = %q; want %q", c.x, got, c.want)
		}
	}
}

func TestPutOfANaNIsThatOfTheNaN(t *testing.T) {
	for _, bits := range otherNaNs {
		if got := float.Put(number(bits)); got != "\x7f\xf8\x00\x00\x00\x00\x00\x01" {
			t.Errorf("Put of %016x = %q", bits, got)
		}
	}
}

func TestPutOfManyNumbers(t *testing.T) {
	for _, bits := range someBits() {
		if got := float.Put(number(bits)); got != putOf(bits) {
			t.Errorf("Put of %016x = %q; want %q", bits, got, putOf(bits))
		}
	}
}

// Promise 5.1: Read.

func TestRead(t *testing.T) {
	reads(t, "\x00\x00\x00\x00\x00\x00\x00\x00", 0)
	reads(t, "\x80\x00\x00\x00\x00\x00\x00\x00", sign)
	reads(t, "\x3f\xf0\x00\x00\x00\x00\x00\x00", one)
	reads(t, "\x00\x00\x00\x00\x00\x00\x00\x01", 1)
	reads(t, "\x01\x23\x45\x67\x89\xab\xcd\xef", 0x0123456789abcdef)
	reads(t, "\xfe\xdc\xba\x98\x76\x54\x32\x10", 0xfedcba9876543210)
	reads(t, "\x7f\xf0\x00\x00\x00\x00\x00\x00", infinity)
	reads(t, "\xff\xf0\x00\x00\x00\x00\x00\x00", infinity+sign)
	reads(t, "\x7f\xf8\x00\x00\x00\x00\x00\x01", nan)
	for _, e := range edges {
		reads(t, raw(e.bits), e.bits)
	}
}

func TestReadOfWhatIsPutIsTheClean(t *testing.T) {
	for _, bits := range someBits() {
		reads(t, float.Put(number(bits)), cleanBits(bits))
	}
}

func TestReadOfManyBytes(t *testing.T) {
	for _, bits := range someBits() {
		if cleanBits(bits) != bits {
			refuses(t, raw(bits), api.ErrForm)
			continue
		}
		reads(t, raw(bits), bits)
		if x, _ := float.Read(raw(bits)); float.Put(x) != raw(bits) {
			t.Errorf("Put of what is read of %q = %q", raw(bits), float.Put(x))
		}
	}
}

func TestReadRefusesLess(t *testing.T) {
	for _, s := range []string{raw(0), raw(one), raw(nan), raw(otherNaNs[0]), raw(math.MaxUint64), "\xc3\xa9\xe2\x82\xac\x00\x00"} {
		for n := range min(len(s), 8) {
			refuses(t, s[:n], api.ErrCut)
			refuses(t, s[len(s)-n:], api.ErrCut)
		}
	}
	refuses(t, "", api.ErrCut)
	refuses(t, "1", api.ErrCut)
}

func TestReadRefusesMore(t *testing.T) {
	for _, e := range edges {
		for _, more := range []string{"\x00", "\xff", "x", raw(0), raw(e.bits)} {
			refuses(t, raw(e.bits)+more, api.ErrForm)
			refuses(t, more+raw(e.bits), api.ErrForm)
		}
	}
	for n := 9; n < 300; n++ {
		refuses(t, strings.Repeat("\x00", n), api.ErrForm)
		refuses(t, strings.Repeat("\x3f", n), api.ErrForm)
	}
	refuses(t, strings.Repeat("\x3f", 70000), api.ErrForm)
	// Eight runes may be more than eight bytes.
	refuses(t, strings.Repeat("\u00e9", 8), api.ErrForm)
}

func TestReadRefusesOtherNaNs(t *testing.T) {
	for _, bits := range otherNaNs {
		refuses(t, raw(bits), api.ErrForm)
		refuses(t, raw(bits)+"\x00", api.ErrForm)
		refuses(t, raw(bits)[:7], api.ErrCut)
	}
	// Each byte of the NaN but the first two (which are of its exponent too) changed makes another NaN.
	for place := 2; place < 8; place++ {
		for n := range 256 {
			other := []byte(raw(nan))
			if other[place] != byte(n) {
				other[place] = byte(n)
				refuses(t, string(other), api.ErrForm)
			}
		}
	}
}

func TestTheSameIsToldAgain(t *testing.T) {
	for _, bits := range append(edgeBits(), otherNaNs...) {
		x := number(bits)
		float.Sort([]float64{1, x, 0})
		float.Read("\xff")
		for range 2 {
			same(t, "Clean", float.Clean(x), cleanBits(bits))
			if float.Key(x) != keyOf(bits) || float.Put(x) != putOf(bits) || float.Less(x, 0) != (keyOf(bits) < sign) {
				t.Errorf("of %016x another thing was told", bits)
			}
		}
	}
}

// Whatever the bits are, each call tells what the promise's words say.
func FuzzOneOrder(f *testing.F) {
	for i, e := range edges {
		f.Add(e.bits, otherNaNs[i%len(otherNaNs)], raw(e.bits))
	}
	f.Add(uint64(0), uint64(math.MaxUint64), "")
	f.Add(uint64(sign), uint64(0), "\x7f\xf8\x00\x00\x00\x00\x00\x02")
	f.Fuzz(func(t *testing.T, a, b uint64, s string) {
		x, y := number(a), number(b)
		same(t, "Clean", float.Clean(x), cleanBits(a))
		same(t, "Of", float.Of(a), ofKey(a))
		same(t, "Of of Key", float.Of(float.Key(x)), cleanBits(a))
		if float.Key(x) != keyOf(a) || float.Less(x, y) != (keyOf(a) < keyOf(b)) {
			t.Errorf("Key of %016x is %016x, and Less with %016x %t", a, float.Key(x), b, float.Less(x, y))
		}
		want := []uint64{cleanBits(a), cleanBits(b)}
		if keyOf(b) < keyOf(a) {
			want[0], want[1] = want[1], want[0]
		}
		sorts(t, []float64{x, y}, want)
		reads(t, float.Put(x), cleanBits(a))
		if z, err := float.Read(s); err == api.OK && float.Put(z) != s {
			t.Errorf("Read takes %q, and Put of it is %q", s, float.Put(z))
		} else if err != api.OK {
			same(t, "what stands beside an error", z, 0)
		}
	})
}
