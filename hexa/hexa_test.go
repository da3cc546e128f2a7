package hexa_test

import (
	"fmt"
	"strings"
	"testing"

	"almonry/api"
	"almonry/hexa"
	"almonry/sha"
)

const allDigits = "0123456789abcdef"

// notDigits are texts of an even number of bytes, each with a rune that is no digit, though some of them look like one.
var notDigits = []string{
	"\u0130",       // its lowest byte is '0'
	"\u0161",       // its lowest byte is 'a'
	"0\uff11",      // a digit of another kind, of three bytes
	"00\u0663",     // one of another script, of two bytes
	"\u00e9",       // a letter
	"0\ufffd",      // what a range over a string tells of bytes that are no text
	"\U00010030",   // its lowest byte is '0', and it has four bytes
	"\U00010061ff", // its lowest byte is 'a'
}

// bytesWhere answers the bytes that are digits, or those that are none.
func bytesWhere(digit bool) []byte {
	var out []byte
	for n := range 256 {
		if isDigit := strings.IndexByte(allDigits, byte(n)) >= 0; isDigit == digit {
			out = append(out, byte(n))
		}
	}
	return out
}

// with is s, but with b at a place.
func with(s string, place int, b byte) string {
	return s[:place] + string([]byte{b}) + s[place+1:]
}

// refuses fails unless Read answers ErrForm of s, and nothing beside it.
func refuses(t *testing.T, s string) {
	t.Helper()
	if got, err := hexa.Read(s); got != "" || err != api.ErrForm {
		t.Errorf("Read(%q) = %q, %d; want ErrForm", s, got, err)
	}
}

// Promise 3.1: Put.

func TestPutPutsTwoDigitsAByte(t *testing.T) {
	for _, c := range []struct{ s, want string }{
		{"", ""},
		{"\x00", "00"},
		{"\xff", "ff"},
		{"\x00\xff", "00ff"},
		{"\xff\x00", "ff00"},
		{"\x01", "01"},
		{"\x10", "10"},
		{"\x09\x0a\x90\xa0", "090a90a0"},
		{"\x0f\xf0", "0ff0"},
		{"\x01\x23\x45\x67\x89\xab\xcd\xef", "0123456789abcdef"},
		{"\xfe\xdc\xba\x98\x76\x54\x32\x10", "fedcba9876543210"},
		{"abc", "616263"},
		{"00", "3030"},
		{"n\u00e9", "6ec3a9"},
		{"\u20ac\ufffd", "e282acefbfbd"},
		{"\xc3\x80\xbf", "c380bf"},
		{strings.Repeat("\x5a", 70000), strings.Repeat("5a", 70000)},
	} {
		if got := hexa.Put(c.s); got != c.want {
			t.Errorf("Put(%.20q) = %.40q; want %.40q", c.s, got, c.want)
		}
	}
}

func TestPutOfEachByte(t *testing.T) {
	var all, want string
	for n := range 256 {
		b := string([]byte{byte(n)})
		digits := string([]byte{allDigits[n/16], allDigits[n%16]})
		if got := hexa.Put(b); got != digits {
			t.Errorf("Put(%q) = %q; want %q", b, got, digits)
		}
		all, want = all+b, want+digits
	}
	if got := hexa.Put(all); got != want {
		t.Errorf("Put of all bytes = %q; want %q", got, want)
	}
}

// Promise 3.1: Read.

func TestReadReadsWhatIsPut(t *testing.T) {
	for _, c := range []struct{ s, want string }{
		{"", ""},
		{"00", "\x00"},
		{"00ff", "\x00\xff"},
		{"0ff0", "\x0f\xf0"},
		{"01", "\x01"},
		{"10", "\x10"},
		{"0123456789abcdef", "\x01\x23\x45\x67\x89\xab\xcd\xef"},
		{"616263", "abc"},
		{"6ec3a9", "n\u00e9"},
		{"c380bf", "\xc3\x80\xbf"},
		{strings.Repeat("5a", 70000), strings.Repeat("\x5a", 70000)},
	} {
		if got, err := hexa.Read(c.s); got != c.want || err != api.OK {
			t.Errorf("Read(%.40q) = %.20q, %d; want %.20q", c.s, got, err, c.want)
		}
	}
}

func TestEachByteThereAndBack(t *testing.T) {
	var all string
	for n := range 256 {
		b := string([]byte{byte(n)})
		if got, err := hexa.Read(hexa.Put(b)); got != b || err != api.OK {
			t.Errorf("Read of Put(%q) = %q, %d", b, got, err)
		}
		all += b
	}
	if got, err := hexa.Read(hexa.Put(all)); got != all || err != api.OK {
		t.Errorf("Read of Put of all bytes = %q, %d", got, err)
	}
}

func TestReadOfEachTwoDigits(t *testing.T) {
	for i, high := range allDigits {
		for j, low := range allDigits {
			s, want := string(high)+string(low), string([]byte{byte(16*i + j)})
			if got, err := hexa.Read(s); got != want || err != api.OK {
				t.Errorf("Read(%q) = %q, %d; want %q", s, got, err, want)
			}
		}
	}
}

func TestReadRefusesAnOddNumberOfDigits(t *testing.T) {
	for n := range 40 {
		if s := strings.Repeat("a", n); n%2 == 1 {
			refuses(t, s)
		} else if got, err := hexa.Read(s); len(got) != n/2 || err != api.OK {
			t.Errorf("Read(%q) = %q, %d", s, got, err)
		}
	}
	for _, s := range []string{"0", "f", "000", "00f", "00ff0", "0123456789abcde", strings.Repeat("0", 70001)} {
		refuses(t, s)
	}
}

func TestReadRefusesEachByteThatIsNoDigit(t *testing.T) {
	none := bytesWhere(false)
	if len(none) != 240 {
		t.Fatalf("%d bytes are no digits", len(none))
	}
	for _, b := range none {
		for _, s := range []string{"00", "00ff", "0123456789abcdef"} {
			for place := range len(s) {
				refuses(t, with(s, place, b))
			}
		}
		refuses(t, string([]byte{b, b}))
	}
}

func TestReadRefusesRunesThatAreNoDigits(t *testing.T) {
	for _, s := range notDigits {
		if len(s)%2 != 0 {
			t.Fatalf("%q has an odd number of bytes", s)
		}
		refuses(t, s)
		refuses(t, s+"00ff")
		refuses(t, "00ff"+s)
		refuses(t, "0"+s+"f")
	}
}

func TestReadRefusesLettersThatAreGreat(t *testing.T) {
	for _, s := range []string{"0F", "F0", "AB", "00FF", "00fF", "0A0b", "0x00", "0X00"} {
		refuses(t, s)
	}
}

func TestReadRefusesWhatHasBothFaults(t *testing.T) {
	for _, b := range bytesWhere(false) {
		refuses(t, string([]byte{b}))
		for place := range 5 {
			refuses(t, with("00ff0", place, b))
		}
	}
	for _, s := range []string{"\u20ac", "\ufffd", "0\u00e9", "0\u0130", "\uff10"} {
		refuses(t, s)
	}
}

// What is read ahead of a fault is not told.
func TestReadTellsNothingBesideAnError(t *testing.T) {
	good := hexa.Put("what stands ahead of it")
	for _, tail := range []string{"0", "0g", "g0", "0F", "\xff\xff", "\u00e9", " \n", "00 "} {
		refuses(t, good+tail)
		refuses(t, tail+good)
	}
	if got, err := hexa.Read(good); got != "what stands ahead of it" || err != api.OK {
		t.Errorf("behind errors, Read(%q) = %q, %d", good, got, err)
	}
}

// Promise 3.1: ID.

func TestID(t *testing.T) {
	for _, c := range []struct{ s, want string }{
		{"", "e3b0c44298fc1c149afbf4c8996fb92427ae41e4649b934ca495991b7852b855"},
		{"abc", "ba7816bf8f01cfea414140de5dae2223b00361a396177a9cb410ff61f20015ad"},
		{"x", "2d711642b726b04401627ca9fbac32f5c8530fb1903cc4db02258717921a4881"},
		{"\x00", "6e340b9cffb37a989ca544e6bb780a2c78901d3fb33738768511a30617afa01d"},
		{
			"abcdbcdecdefdefgefghfghighijhijkijkljklmklmnlmnomnopnopq",
			"248d6a61d20638b8e5c026930c3e6039a33ce45964ff2167f6ecedd419db06c1",
		},
		{strings.Repeat("a", 1000000), "cdc76e5c9914fb9281a1c7e284d73e67f1809a48a497200e046d39ccc7112cd0"},
	} {
		if got := hexa.ID(c.s); got != c.want {
			t.Errorf("ID of %d bytes = %q; want %q", len(c.s), got, c.want)
		}
	}
}

func TestIDIsTheDigitsOfTheSum(t *testing.T) {
	seen := map[string]int{}
	for n := range 300 {
		s := strings.Repeat(string([]byte{byte(n)}), n)
		id := hexa.ID(s)
		if want := fmt.Sprintf("%x", sha.Sum(s)); id != want {
			t.Errorf("ID of %d bytes = %q; want %q", n, id, want)
		}
		if sum, err := hexa.Read(id); sum != sha.Sum(s) || err != api.OK {
			t.Errorf("Read of the ID of %d bytes = %x, %d", n, sum, err)
		}
		if err := hexa.Check(id); err != api.OK {
			t.Errorf("Check of the ID of %d bytes = %d", n, err)
		}
		if m, ok := seen[id]; ok {
			t.Errorf("the IDs of %d bytes and of %d are the same", m, n)
		}
		seen[id] = n
	}
}

// Promise 3.1: Check.

// checks fails unless Check answers want.
func checks(t *testing.T, id string, want api.Errno) {
	t.Helper()
	if got := hexa.Check(id); got != want {
		t.Errorf("Check(%q), of %d bytes, = %d; want %d", id, len(id), got, want)
	}
}

func TestCheckAsksForSixtyFourDigits(t *testing.T) {
	for n := range 200 {
		want := api.ErrForm
		if n == 64 {
			want = api.OK
		}
		checks(t, strings.Repeat("a", n), want)
		checks(t, strings.Repeat(allDigits, 13)[:n], want)
	}
	checks(t, strings.Repeat("0", 70000), api.ErrForm)
	checks(t, "00", api.ErrForm)
	checks(t, hexa.Put(hexa.ID("x")), api.ErrForm)
	checks(t, sha.Sum("x"), api.ErrForm)
}

func TestCheckTakesEachDigitAtEachPlace(t *testing.T) {
	id := hexa.ID("x")
	checks(t, id, api.OK)
	for _, b := range bytesWhere(true) {
		checks(t, strings.Repeat(string([]byte{b}), 64), api.OK)
		for place := range 64 {
			checks(t, with(id, place, b), api.OK)
		}
	}
}

func TestCheckRefusesEachByteThatIsNoDigit(t *testing.T) {
	id := hexa.ID("x")
	for _, b := range bytesWhere(false) {
		for place := range 64 {
			checks(t, with(id, place, b), api.ErrForm)
		}
		checks(t, strings.Repeat(string([]byte{b}), 64), api.ErrForm)
	}
}

func TestCheckRefusesLettersThatAreGreat(t *testing.T) {
	checks(t, strings.ToUpper(hexa.ID("x")), api.ErrForm)
	checks(t, strings.Repeat("0", 63)+"F", api.ErrForm)
	checks(t, "A"+strings.Repeat("0", 63), api.ErrForm)
}

// It is bytes that are counted, and runes that must be digits.
func TestCheckRefusesRunesThatAreNoDigits(t *testing.T) {
	for _, s := range notDigits {
		checks(t, s+strings.Repeat("0", 64-len(s)), api.ErrForm)
		checks(t, strings.Repeat("0", 64-len(s))+s, api.ErrForm)
	}
	checks(t, strings.Repeat("0", 63)+"\u00e9", api.ErrForm)
	checks(t, strings.Repeat("\u0130", 64), api.ErrForm)
	checks(t, strings.Repeat("\u0130", 32), api.ErrForm)
}

func TestTheSameIsToldAgain(t *testing.T) {
	for _, s := range []string{"", "abc", "00ff", "0", "0g", "\xff", strings.Repeat("0", 64)} {
		put, id, check := hexa.Put(s), hexa.ID(s), hexa.Check(s)
		read, err := hexa.Read(s)
		hexa.Read("zz")
		hexa.Put("x")
		if again, errAgain := hexa.Read(s); again != read || errAgain != err {
			t.Errorf("Read(%q) = %q, %d, and then %q, %d", s, read, err, again, errAgain)
		}
		if hexa.Put(s) != put || hexa.ID(s) != id || hexa.Check(s) != check {
			t.Errorf("of %q, Put, ID or Check told another thing the second time", s)
		}
	}
}

// Whatever there is, it comes back behind Put; and Read takes nothing but what Put puts.
func FuzzThereAndBack(f *testing.F) {
	for _, s := range []string{"", "0", "00", "00ff", "0F", "\x00\xff", "\u0130", "0\ufffd", "\xff\xff", "0g"} {
		f.Add(s)
	}
	f.Fuzz(func(t *testing.T, s string) {
		digits := hexa.Put(s)
		if want := fmt.Sprintf("%x", s); digits != want {
			t.Errorf("Put(%q) = %q; want %q", s, digits, want)
		}
		if got, err := hexa.Read(digits); got != s || err != api.OK {
			t.Errorf("Read(%q) = %q, %d; want %q", digits, got, err, s)
		}
		isDigits := strings.Trim(s, allDigits) == ""
		bytes, err := hexa.Read(s)
		if isDigits && len(s)%2 == 0 {
			if err != api.OK || hexa.Put(bytes) != s {
				t.Errorf("Read(%q) = %q, %d", s, bytes, err)
			}
		} else if bytes != "" || err != api.ErrForm {
			t.Errorf("Read(%q) = %q, %d; want ErrForm", s, bytes, err)
		}
		want := api.ErrForm
		if isDigits && len(s) == 64 {
			want = api.OK
		}
		if got := hexa.Check(s); got != want {
			t.Errorf("Check(%q) = %d; want %d", s, got, want)
		}
	})
}
