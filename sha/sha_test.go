package sha_test

import (
	"fmt"
	"math/big"
	"math/rand"
	"strings"
	"testing"

	"almonry/sha"
)

// firstRegisters are those of the promise, which the tests hold against what they work out by themselves.
var firstRegisters = [8]uint32{
	0x6a09e667, 0xbb67ae85, 0x3c6ef372, 0xa54ff53a, 0x510e527f, 0x9b05688c, 0x1f83d9ab, 0x5be0cd19,
}

const most = int(^uint(0) >> 1)

// fill is n bytes that are unlike for each n.
func fill(n int) string {
	out := make([]byte, n)
	for i := range out {
		out[i] = byte(7*i + n)
	}
	return string(out)
}

// Promise 2.1: Pad, and the constants.

func TestPadPutsMarkZerosAndLength(t *testing.T) {
	for _, c := range []struct {
		n, zeros int
		length   string
	}{
		{0, 55, "\x00\x00\x00\x00\x00\x00\x00\x00"},
		{1, 54, "\x00\x00\x00\x00\x00\x00\x00\x08"},
		{3, 52, "\x00\x00\x00\x00\x00\x00\x00\x18"},
		{54, 1, "\x00\x00\x00\x00\x00\x00\x01\xb0"},
		{55, 0, "\x00\x00\x00\x00\x00\x00\x01\xb8"},
		{56, 63, "\x00\x00\x00\x00\x00\x00\x01\xc0"},
		{57, 62, "\x00\x00\x00\x00\x00\x00\x01\xc8"},
		{63, 56, "\x00\x00\x00\x00\x00\x00\x01\xf8"},
		{64, 55, "\x00\x00\x00\x00\x00\x00\x02\x00"},
		{65, 54, "\x00\x00\x00\x00\x00\x00\x02\x08"},
		{119, 0, "\x00\x00\x00\x00\x00\x00\x03\xb8"},
		{120, 63, "\x00\x00\x00\x00\x00\x00\x03\xc0"},
		{0x01020304, 51, "\x00\x00\x00\x00\x08\x10\x18\x20"},
		{0x0123456789abcdef >> 3, 58, "\x01\x23\x45\x67\x89\xab\xcd\xe8"},
	} {
		want := "\x80" + strings.Repeat("\x00", c.zeros) + c.length
		if got := sha.Pad(c.n); got != want {
			t.Errorf("Pad(%d) = %x; want %x", c.n, got, want)
		}
	}
}

func TestPadMakesWholeBlocksWithAsFewBytesAsItCan(t *testing.T) {
	for n := range 500 {
		pad := sha.Pad(n)
		if size := len(pad); (n+size)%64 != 0 || size < 9 || size >= 9+64 {
			t.Errorf("Pad(%d) is %d bytes", n, size)
		}
	}
}

func TestPadOfANumberBelowNothing(t *testing.T) {
	for _, n := range []int{-1, -8, -9, -55, -56, -64, -most, -most - 1} {
		if got := sha.Pad(n); got != "" {
			t.Errorf("Pad(%d) = %x; want nothing", n, got)
		}
	}
}

// 8 n has more than 64 bits from 2^61 on: what is above is left out.
func TestPadTellsTheLowestBitsOfAGreatLength(t *testing.T) {
	for _, c := range []struct {
		n, zeros int
		length   string
	}{
		{1<<60 - 1, 56, "\x7f\xff\xff\xff\xff\xff\xff\xf8"},
		{1 << 60, 55, "\x80\x00\x00\x00\x00\x00\x00\x00"},
		{1<<61 - 1, 56, "\xff\xff\xff\xff\xff\xff\xff\xf8"},
		{1 << 61, 55, "\x00\x00\x00\x00\x00\x00\x00\x00"},
		{1<<61 + 1, 54, "\x00\x00\x00\x00\x00\x00\x00\x08"},
		{1<<62 + 1<<61 + 55, 0, "\x00\x00\x00\x00\x00\x00\x01\xb8"},
		{most - 8, 0, "\xff\xff\xff\xff\xff\xff\xff\xb8"},
		{most - 7, 63, "\xff\xff\xff\xff\xff\xff\xff\xc0"},
		{most, 56, "\xff\xff\xff\xff\xff\xff\xff\xf8"},
	} {
		want := "\x80" + strings.Repeat("\x00", c.zeros) + c.length
		if got := sha.Pad(c.n); got != want {
			t.Errorf("Pad(%d) = %x; want %x", c.n, got, want)
		}
	}
}

// primes are the first ones.
func primes(count int) []int64 {
	var found []int64
next:
	for p := int64(2); len(found) < count; p++ {
		for _, q := range found {
			if p%q == 0 {
				continue next
			}
		}
		found = append(found, p)
	}
	return found
}

// behindPoint is the first 32 bits behind the point of a number's root: the root of x is looked for, bit by bit, as a number of 2^-32.
func behindPoint(x, degree int64) uint32 {
	power := big.NewInt(degree)
	high := new(big.Int).Lsh(big.NewInt(x), uint(32*degree))
	root := new(big.Int)
	for bit := 40; bit >= 0; bit-- {
		root.SetBit(root, bit, 1)
		if new(big.Int).Exp(root, power, nil).Cmp(high) > 0 {
			root.SetBit(root, bit, 0)
		}
	}
	return uint32(root.Uint64())
}

func turn(x uint32, n int) uint32 { return x>>n | x<<(32-n) }

// plainBlock is promise 2.2 over again, its constants worked out.
func plainBlock(k []uint32, h [8]uint32, block string) [8]uint32 {
	block = (block + strings.Repeat("\x00", 64))[:64]
	var w []uint32
	for ; block != ""; block = block[4:] {
		w = append(w, uint32(block[0])<<24+uint32(block[1])<<16+uint32(block[2])<<8+uint32(block[3]))
	}
	for n := 16; n < 64; n++ {
		x, y := w[n-15], w[n-2]
		w = append(w, w[n-16]+(turn(x, 7)^turn(x, 18)^x>>3)+w[n-7]+(turn(y, 17)^turn(y, 19)^y>>10))
	}
	a, b, c, d, e, f, g, last := h[0], h[1], h[2], h[3], h[4], h[5], h[6], h[7]
	for n := range 64 {
		one := last + (turn(e, 6) ^ turn(e, 11) ^ turn(e, 25)) + ((e & f) ^ (^e & g)) + k[n] + w[n]
		two := (turn(a, 2) ^ turn(a, 13) ^ turn(a, 22)) + ((a & b) ^ (a & c) ^ (b & c))
		last, g, f, e, d, c, b, a = g, f, e, d+one, c, b, a, one+two
	}
	return [8]uint32{h[0] + a, h[1] + b, h[2] + c, h[3] + d, h[4] + e, h[5] + f, h[6] + g, h[7] + last}
}

func TestConstantsAreCubeRoots(t *testing.T) {
	var k []uint32
	for _, p := range primes(64) {
		k = append(k, behindPoint(p, 3))
	}
	chance := rand.New(rand.NewSource(2))
	for i := range 2000 {
		var h [8]uint32
		for j := range h {
			h[j] = chance.Uint32()
		}
		b := make([]byte, i%70)
		chance.Read(b)
		if got, want := sha.Block(h, string(b)), plainBlock(k, h, string(b)); got != want {
			t.Fatalf("Block(%x, %x) = %x; want %x", h, b, got, want)
		}
	}
}

func TestFirstRegistersAreSquareRoots(t *testing.T) {
	var h [8]uint32
	for i, p := range primes(8) {
		h[i] = behindPoint(p, 2)
	}
	if h != firstRegisters {
		t.Fatalf("the square roots are %x", h)
	}
	if got, want := sha.Sum(""), registersAsBytes(sha.Block(h, sha.Pad(0))); got != want {
		t.Errorf("Sum of nothing = %x; want %x", got, want)
	}
}

// registersAsBytes is four bytes a register, the highest first.
func registersAsBytes(h [8]uint32) string {
	var out []byte
	for _, x := range h {
		out = append(out, byte(x>>24), byte(x>>16), byte(x>>8), byte(x))
	}
	return string(out)
}

// Promise 2.2: Block.

func TestBlockSumsIntoAnyRegisters(t *testing.T) {
	all := ^uint32(0)
	for _, c := range []struct {
		h    [8]uint32
		b    string
		want [8]uint32
	}{
		{
			firstRegisters, "abc\x80" + strings.Repeat("\x00", 59) + "\x18",
			[8]uint32{0xba7816bf, 0x8f01cfea, 0x414140de, 0x5dae2223, 0xb00361a3, 0x96177a9c, 0xb410ff61, 0xf20015ad},
		}, {
			[8]uint32{}, "",
			[8]uint32{0x7ca51614, 0x425c3ba8, 0xce54dd2f, 0xc2020ae7, 0xb6e574d1, 0x98136d0f, 0xae7e26cc, 0xbf0be7a6},
		}, {
			[8]uint32{all, all, all, all, all, all, all, all}, strings.Repeat("\xff", 64),
			[8]uint32{0x0598127a, 0xaf11706e, 0x77401fff, 0xd730c549, 0x0b84c867, 0xa98c6ca3, 0xd7f3c0f9, 0x06a78b79},
		}, {
			[8]uint32{1, 2, 3, 4, 5, 6, 7, 8}, "abc",
			[8]uint32{0x31d60091, 0x75c3e74b, 0x1438ab53, 0x0482236f, 0x8cc28650, 0x2c0bf5c1, 0x13dc9bd8, 0xfb8fbde3},
		}, {
			[8]uint32{0xdeadbeef, 0xdfd10456, 0xe0f449bd, 0xe2178f24, 0xe33ad48b, 0xe45e19f2, 0xe5815f59, 0xe6a4a4c0}, fill(64),
			[8]uint32{0x537ee3f3, 0x35015794, 0xc055143d, 0x7850bba1, 0x9819f6ef, 0x549eaeac, 0xd7f3fee7, 0xfe6f5f1b},
		},
	} {
		if got := sha.Block(c.h, c.b); got != c.want {
			t.Errorf("Block(%x, %x) = %x; want %x", c.h, c.b, got, c.want)
		}
	}
}

func TestBlockPutsZerosBehindFewBytes(t *testing.T) {
	h := [8]uint32{8, 7, 6, 5, 4, 3, 2, 1}
	for size := range 65 {
		b := fill(size)
		want := sha.Block(h, b+strings.Repeat("\x00", 64-size))
		if got := sha.Block(h, b); got != want {
			t.Errorf("Block of %d bytes = %x; want %x", size, got, want)
		}
	}
}

func TestBlockTakesTheFirstBytesAlone(t *testing.T) {
	h := [8]uint32{8, 7, 6, 5, 4, 3, 2, 1}
	want := sha.Block(h, fill(64))
	for _, more := range []string{"\x00", "x", fill(63), fill(64), fill(1000)} {
		if got := sha.Block(h, fill(64)+more); got != want {
			t.Errorf("Block of %d bytes = %x; want %x", 64+len(more), got, want)
		}
	}
}

func TestBlockTakesInEachByte(t *testing.T) {
	seen := map[[8]uint32]int{sha.Block(firstRegisters, ""): -1}
	for i := range 64 {
		b := strings.Repeat("\x00", i) + "\x01"
		h := sha.Block(firstRegisters, b)
		if j, ok := seen[h]; ok {
			t.Errorf("byte %d is taken as %d is", i, j)
		}
		seen[h] = i
	}
}

// Promise 2.3: Sum.

func TestSum(t *testing.T) {
	for _, c := range []struct{ s, want string }{
		{"", "e3b0c44298fc1c149afbf4c8996fb92427ae41e4649b934ca495991b7852b855"},
		{"abc", "ba7816bf8f01cfea414140de5dae2223b00361a396177a9cb410ff61f20015ad"},
		{
			"abcdbcdecdefdefgefghfghighijhijkijkljklmklmnlmnomnopnopq",
			"248d6a61d20638b8e5c026930c3e6039a33ce45964ff2167f6ecedd419db06c1",
		}, {
			"abcdefghbcdefghicdefghijdefghijkefghijklfghijklmghijklmnhijklmnoijklmnopjklmnopqklmnopqrlmnopqrsmnopqrstnopqrstu",
			"cf5b16a778af8380036ce59e7b0492370b249b11e8f07a51afac45037afee9d1",
		},
		{strings.Repeat("a", 1000000), "cdc76e5c9914fb9281a1c7e284d73e67f1809a48a497200e046d39ccc7112cd0"},
		{fill(1), "4bf5122f344554c53bde2ebb8cd2b7e3d1600ad631c385a5d7cce23c7785459a"},
		{fill(55), "81afe5b788dc2ce138ff83d9b20164db75a94d75d2b2432eea4a0ef605088c72"},
		{fill(56), "2aba54f0ac632420a2b502431408866e40e1d5e430df4cd822642c78ab2eb9c1"},
		{fill(57), "903284efbf9100e8ba1614ec65eacacad125e03f857cae7acbf8b73b23e0fdfe"},
		{fill(63), "733d3d4ee79ee67145bf73da13588f6f235d37414fc64b14a2f00f1762792f5e"},
		{fill(64), "79322907b3e9d013d7dc2c2f256674dbf733045cde01df3539271c6f5605feb8"},
		{fill(65), "d85c007c6eb440f085afa2b84f6f2bce4658b240e9f62cb1364bf0485a57e720"},
		{fill(119), "6c87eedf096b345de205b702e5223b73b447a3207791ded3ea007ba15ed6736e"},
		{fill(120), "42500cf6a1e3936d6b9e0bcfe296d654b63255e525487d3634d0b15fde591c4d"},
		{fill(127), "68f6ff710276900c0ffbbc57426f67e00c2e01f0750c7edc25ac06b8ce7a8095"},
		{fill(128), "489d55fea9a73af36b6dd0be7b4117d8e5683386d39544e8a44c99a87f368707"},
		{fill(129), "4e1556b2e9a50a3cc9478f3254727b01065f9ac5d2c3a8b4cd538ae7240bb87d"},
		{fill(1000), "6b0df76627243d095b0c4400cb658b7e804dd03461cc03aee8fc8fe0bcada168"},
	} {
		if got := fmt.Sprintf("%x", sha.Sum(c.s)); got != c.want {
			t.Errorf("Sum of %d bytes = %s; want %s", len(c.s), got, c.want)
		}
	}
}

// The sum of the sums of each length below 300 stands for all of them.
func TestSumOfEachLength(t *testing.T) {
	var sums strings.Builder
	for n := range 300 {
		sum := sha.Sum(fill(n))
		if len(sum) != 32 {
			t.Fatalf("Sum of %d bytes is %d bytes", n, len(sum))
		}
		sums.WriteString(sum)
	}
	const want = "d5238871a46ac4a1a75ac3fb19d645b0b3b9e5f35f5f720e2b240d605c6b694e"
	if got := fmt.Sprintf("%x", sha.Sum(sums.String())); got != want {
		t.Errorf("the sums' sum = %s; want %s", got, want)
	}
}

func TestSumTellsTheSameAgain(t *testing.T) {
	for _, s := range []string{"", "abc", fill(64), fill(1000)} {
		first := sha.Sum(s)
		sha.Sum(s + "x")
		sha.Block([8]uint32{1}, s)
		if again := sha.Sum(s); again != first {
			t.Errorf("Sum of %d bytes = %x, and then %x", len(s), first, again)
		}
	}
}

// Whatever is summed, the sum is that of its blocks, and of what Pad puts behind them.
func FuzzSumIsItsBlocks(f *testing.F) {
	for _, n := range []int{0, 1, 55, 56, 63, 64, 65, 128, 1000} {
		f.Add(fill(n))
	}
	f.Fuzz(func(t *testing.T, s string) {
		h := firstRegisters
		for all := s + sha.Pad(len(s)); all != ""; all = all[64:] {
			h = sha.Block(h, all)
		}
		if got, want := sha.Sum(s), registersAsBytes(h); got != want {
			t.Errorf("Sum of %d bytes = %x; want %x", len(s), got, want)
		}
	})
}
