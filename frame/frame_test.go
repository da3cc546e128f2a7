package frame_test

import (
	"slices"
	"strings"
	"testing"

	"almonry/api"
	"almonry/crc"
	"almonry/frame"
	"almonry/plainly"
)

// someTexts are of several lengths, and of bytes of each kind.
var someTexts = []string{
	"", "a", "b", "\x00", "\xff", "\x80\x80", "123456789", "n\u00e9", "\u20ac\ufffd", "\x01a\xc4\xff\x6e\x71",
	strings.Repeat("\x00", 40), strings.Repeat("\xff", 40), fill(127), fill(128), fill(300),
}

// fill is n bytes that are unlike for each n.
func fill(n int) string {
	out := make([]byte, n)
	for i := range out {
		out[i] = byte(7*i + n)
	}
	return string(out)
}

// summed is bytes of any kind with their sum behind, the lowest byte first.
func summed(s string) string {
	sum := crc.Sum(s)
	return s + string([]byte{byte(sum), byte(sum >> 8), byte(sum >> 16), byte(sum >> 24)})
}

// plain is the record that promise 7.1 asks for.
func plain(s string) string { return summed(plainly.Text(s)) }

// with is s, but with b at a place.
func with(s string, place int, b byte) string {
	return s[:place] + string([]byte{b}) + s[place+1:]
}

// puts fails unless Put answers want.
func puts(t *testing.T, s, want string) {
	t.Helper()
	if got, err := frame.Put(s); got != want || err != api.OK {
		t.Errorf("Put of %d bytes, %.20q, = %d bytes, %.20q, error %d; want %d, %.20q", len(s), s, len(got), got, err, len(want), want)
	}
}

// reads fails unless Read answers this text and length.
func reads(t *testing.T, s, want string, size int) {
	t.Helper()
	if got, n, err := frame.Read(s); got != want || n != size || err != api.OK {
		t.Errorf("Read of %d bytes, %.20q, = %.20q, %d, error %d; want %.20q, %d", len(s), s, got, n, err, want, size)
	}
}

// refuses fails unless Read answers this error, and nothing beside it.
func refuses(t *testing.T, s string, want api.Errno) {
	t.Helper()
	if got, n, err := frame.Read(s); got != "" || n != 0 || err != want {
		t.Errorf("Read of %d bytes, %.20q, = %.20q, %d, error %d; want error %d alone", len(s), s, got, n, err, want)
	}
}

// tells fails unless All answers these texts and this length.
func tells(t *testing.T, s string, want []string, size int) {
	t.Helper()
	if got, n := frame.All(s); !slices.Equal(got, want) || n != size {
		t.Errorf("All of %d bytes, %.20q, = %d texts, %d bytes; want %d, %d", len(s), s, len(got), n, len(want), size)
	}
}

// Promise 7.1: Put.

func TestPut(t *testing.T) {
	for _, c := range []struct{ s, size, sum string }{
		{"", "\x00", "\x51\x53\x7d\x52"},
		{"a", "\x01", "\xc4\xff\x6e\x71"},
		{"b", "\x01", "\x30\x0c\x3e\x62"},
		{"\x00", "\x01", "\xa5\xef\xc3\xe2"},
		{"\xff", "\x01", "\xf4\xbc\xbe\x4f"},
		{"123456789", "\x09", "\xe0\x9a\xb2\x36"},
		{"n\u00e9", "\x03", "\xef\x8b\x4e\x0f"},
		{strings.Repeat("x", 127), "\x7f", "\x40\x34\xdc\xcc"},
		{strings.Repeat("x", 128), "\x80\x01", "\xf9\x55\x57\xf8"},
		{strings.Repeat("y", 300), "\xac\x02", "\xbb\xc5\xdb\xc1"},
		{strings.Repeat("x", api.MaxText-1), "\xff\xff\x03", "\x05\x1c\x88\xb3"},
		{strings.Repeat("x", api.MaxText), "\x80\x80\x04", "\xc7\x30\x8f\xa7"},
	} {
		puts(t, c.s, c.size+c.s+c.sum)
		reads(t, c.size+c.s+c.sum, c.s, len(c.size)+len(c.s)+len(c.sum))
	}
}

func TestPutOfEachByteAndLength(t *testing.T) {
	for n := range 256 {
		b := string([]byte{byte(n)})
		puts(t, b, plain(b))
	}
	for n := range 300 {
		puts(t, fill(n), plain(fill(n)))
	}
	for _, s := range someTexts {
		puts(t, s, plain(s))
	}
}

func TestPutRefusesMoreThanMaxText(t *testing.T) {
	for _, size := range []int{api.MaxText + 1, api.MaxText + 4, 2 * api.MaxText} {
		if got, err := frame.Put(fill(size)); got != "" || err != api.ErrLong {
			t.Errorf("Put of %d bytes is %d bytes, error %d; want ErrLong", size, len(got), err)
		}
	}
}

// Promise 7.1: Read.

func TestReadTakesWhatWasPut(t *testing.T) {
	for n := range 256 {
		b := string([]byte{byte(n)})
		reads(t, plain(b), b, 6)
	}
	for n := range 300 {
		reads(t, plain(fill(n)), fill(n), len(plain(fill(n))))
	}
}

// What stands behind a record is nothing to it.
func TestReadTakesTheFirstRecordAlone(t *testing.T) {
	for _, s := range someTexts {
		for _, behind := range []string{"", "\x00", "x", "\x80", "\xff\xff\xff\xff\xff", plain("a"), plain("a")[:3], plain(s), fill(1000)} {
			reads(t, plain(s)+behind, s, len(plain(s)))
		}
	}
}

// 1's errors of the text come first, whatever stands behind it.
func TestReadRefusesWhatIsNoText(t *testing.T) {
	for _, c := range []struct {
		s    string
		want api.Errno
	}{
		{"", api.ErrCut},
		{"\x80", api.ErrCut},
		{"\xff\xff\xff\xff", api.ErrCut},
		{strings.Repeat("\x80", 1000), api.ErrCut},
		{"\x01", api.ErrCut},
		{"\x02a", api.ErrCut},
		{"\x7f" + fill(126), api.ErrCut},
		{"\x80\x80\x04" + fill(api.MaxText-1), api.ErrCut},
		{"\x80\x00", api.ErrForm},
		{"\x81\x00a", api.ErrForm},
		{"\xac\x82\x00" + fill(300), api.ErrForm},
		{"\x81\x80\x04", api.ErrLong},
		{"\x81\x80\x04" + fill(api.MaxText+1), api.ErrLong},
		{"\x80\x80\x80\x80\x80\x80\x80\x10", api.ErrLong},
		{"\x81\x80\x80\x80\x80\x80\x80\x10", api.ErrRange},
		{"\x80\x80\x80\x80\x80\x80\x80\x80\x01", api.ErrRange},
		{strings.Repeat("\xff", 1000) + "\x00", api.ErrRange},
	} {
		refuses(t, c.s, c.want)
		if c.want != api.ErrCut {
			refuses(t, summed(c.s), c.want)
			refuses(t, c.s+"\x00\x00\x00", c.want)
		}
	}
}

// A text that lacks bytes takes those of the sum, if there are enough of them: the sum lacks them then.
func TestReadRefusesATextThatLacksBytes(t *testing.T) {
	for n := range 9 {
		refuses(t, summed("\x09"+strings.Repeat("x", n)), api.ErrCut)
	}
}

func TestReadRefusesWhatLacksBytes(t *testing.T) {
	for _, s := range append([]string{fill(api.MaxText)}, someTexts...) {
		whole := plain(s)
		for n := range len(whole) {
			if len(whole) < 1000 || n < 300 || n > len(whole)-300 {
				refuses(t, whole[:n], api.ErrCut)
			}
		}
	}
}

// Fewer than four bytes are a cut, even where they are not those of the sum.
func TestACutComesAheadOfTheSum(t *testing.T) {
	for _, tail := range []string{"", "\x00", "\xff\xff", "\x00\x00\x00", "xyz"} {
		refuses(t, "\x01a"+tail, api.ErrCut)
		refuses(t, "\x00"+tail, api.ErrCut)
	}
	refuses(t, "\x01a"+"xyz"+"0", api.ErrSum)
	refuses(t, "\x00"+"xyz"+"0", api.ErrSum)
}

func TestReadRefusesEachOtherSum(t *testing.T) {
	for _, s := range someTexts {
		whole := plain(s)
		for place := len(whole) - 4; place < len(whole); place++ {
			for n := range 256 {
				if other := with(whole, place, byte(n)); other != whole {
					refuses(t, other, api.ErrSum)
					refuses(t, other+plain("a"), api.ErrSum)
				}
			}
		}
	}
	for _, tail := range []string{
		"\x00\x00\x00\x00",
		"\xff\xff\xff\xff",
		"\x71\x6e\xff\xc4", // the highest byte first
		"\x3b\x00\x91\x8e", // each bit turned once more
		"\x30\x43\xd0\xc1", // without the length
		"\x30\x0c\x3e\x62", // of another text
	} {
		refuses(t, "\x01a"+tail, api.ErrSum)
	}
}

func TestReadRefusesEachOtherByteOfTheText(t *testing.T) {
	for _, s := range someTexts {
		whole := plain(s)
		for place := len(plainly.Number(len(s))); place < len(whole)-4; place++ {
			for n := range 256 {
				if other := with(whole, place, byte(n)); other != whole {
					refuses(t, other, api.ErrSum)
				}
			}
		}
	}
	full := plain(fill(api.MaxText))
	for _, place := range []int{3, 4, 300, 4096, api.MaxText / 2, api.MaxText + 1, api.MaxText + 2} {
		refuses(t, with(full, place, full[place]^1), api.ErrSum)
	}
}

// Of another length, a text is another one, and its sum is looked for elsewhere.
func TestReadRefusesAnotherLength(t *testing.T) {
	s := strings.Repeat("\x00", 40)
	for n := range 128 {
		switch other := with(plain(s), 0, byte(n)); {
		case n < len(s):
			refuses(t, other, api.ErrSum)
		case n > len(s):
			refuses(t, other, api.ErrCut)
		}
	}
}

// Promise 7.1: All.

func TestAll(t *testing.T) {
	tells(t, "", nil, 0)
	tells(t, plain(""), []string{""}, 5)
	tells(t, plain("a"), []string{"a"}, 6)
	tells(t, plain("a")+plain("")+plain("a")+plain("b"), []string{"a", "", "a", "b"}, 23)
	full := fill(api.MaxText)
	tells(t, plain(full)+plain("")+plain(full), []string{full, "", full}, 2*(len(full)+7)+5)
	size := 0
	var whole strings.Builder
	for _, s := range someTexts {
		whole.WriteString(plain(s))
		size += len(plain(s))
	}
	tells(t, whole.String(), someTexts, size)
}

// Records are no list of layer 1: there may be more of them.
func TestAllTakesMoreThanMaxList(t *testing.T) {
	for _, count := range []int{api.MaxList, api.MaxList + 1, 100000} {
		tells(t, strings.Repeat(plain("x"), count), slices.Repeat([]string{"x"}, count), 6*count)
	}
}

func TestAllEndsAtTheFirstError(t *testing.T) {
	ahead, behind := plain("a")+plain("bc"), plain("d")+plain("e")
	for _, broken := range []string{
		"\x01a\x00\x00\x00\x00",
		with(plain("xyz"), 2, '!'),
		"\x80\x00",
		summed("\x81\x00x"),
		"\x81\x80\x04",
		summed("\x81\x80\x04" + fill(api.MaxText+1)),
		"\x81\x80\x80\x80\x80\x80\x80\x10",
		"\x7f",
		plain("xyz")[:5],
		plain("xyz")[1:],
		strings.Repeat("\x80", 1000),
	} {
		tells(t, ahead+broken+behind, []string{"a", "bc"}, len(ahead))
		tells(t, ahead+broken, []string{"a", "bc"}, len(ahead))
		tells(t, broken+behind, nil, 0)
		tells(t, broken, nil, 0)
	}
}

// A text that holds records is one text.
func TestAllGoesOverNoTextAgain(t *testing.T) {
	inner := plain("a") + plain("b")
	tells(t, plain(inner)+plain("c"), []string{inner, "c"}, len(plain(inner))+6)
}

// Promise 7.2: of records of which bytes at the end lack the first ones are there.

func TestTheFirstRecordsAreThere(t *testing.T) {
	texts := append([]string{"a", "b"}, someTexts...)
	whole, there, size := "", 0, 0
	for _, s := range texts {
		whole += plain(s)
	}
	for n := range len(whole) + 1 {
		if there < len(texts) && n == size+len(plain(texts[there])) {
			size = n
			there++
		}
		tells(t, whole[:n], texts[:there], size)
	}
	if there != len(texts) {
		t.Errorf("%d records were whole; want %d", there, len(texts))
	}
}

func TestTheSameIsToldAgain(t *testing.T) {
	s := plain("a") + plain("b") + "\x05"
	first, size := frame.All(s)
	frame.All(plain("c") + plain("d") + plain("e"))
	if !slices.Equal(first, []string{"a", "b"}) || size != 12 {
		t.Errorf("All = %q, %d", first, size)
	}
	tells(t, s, first, size)
}

// Whatever there is, what is read is what was put, and All is Read over and over.
func FuzzRecords(f *testing.F) {
	for _, s := range someTexts {
		f.Add(s, plain(s)+plain("a")+"\x03x", len(s))
	}
	f.Add("a", "\x80\x00", 3)
	f.Add("a", "\x01a\x00\x00\x00\x00", 7)
	f.Fuzz(func(t *testing.T, s, behind string, place int) {
		if len(s) > api.MaxText {
			return
		}
		whole := plain(s)
		puts(t, s, whole)
		reads(t, whole+behind, s, len(whole))
		if place >= 0 && place < len(whole) {
			refuses(t, whole[:place], api.ErrCut)
		}
		texts, size := frame.All(behind)
		tells(t, whole+behind, append([]string{s}, texts...), len(whole)+size)
		again := ""
		for _, text := range texts {
			reads(t, behind[len(again):], text, len(plain(text)))
			again += plain(text)
		}
		if again != behind[:size] {
			t.Errorf("All of %.20q tells %d texts that are put otherwise", behind, len(texts))
		}
		if _, _, err := frame.Read(behind[size:]); err == api.OK {
			t.Errorf("All of %.20q ends ahead of a record", behind)
		}
	})
}
