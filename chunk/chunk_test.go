package chunk_test

import (
	"slices"
	"strings"
	"testing"

	"almonry/api"
	"almonry/chunk"
	"almonry/hexa"
	"almonry/plainly"
)

// The IDs of some bytes.
const (
	idOfAB = "fb8e20fc2e4c3f248c60c39bd652f3c1347298bb977b8b4d5903b85055620603"
	idOfCD = "21e721c35a5823fdb452fa2f9f0a612c74fb952e06927489c6b27a43b817bed4"
	idOfE  = "3f79bb7b435b05321651daefd374cdc681dc06faa65e374e38337b88ca046dea"
	// idOfNone is that of no bytes.
	idOfNone = "e3b0c44298fc1c149afbf4c8996fb92427ae41e4649b934ca495991b7852b855"
)

// fill is n bytes that are unlike for each n.
func fill(n int) string {
	out := make([]byte, n)
	for i := range out {
		out[i] = byte(7*i + i>>8 + n)
	}
	return string(out)
}

// parts are the chunks that promise 9.1 asks for, told the long way: byte by byte.
func parts(s string, size int) []string {
	var l []string
	for i := range len(s) {
		if i%size == 0 {
			l = append(l, "")
		}
		l[len(l)-1] += s[i : i+1]
	}
	return l
}

// ids are those of some texts.
func ids(l []string) []string {
	var out []string
	for _, c := range l {
		out = append(out, hexa.ID(c))
	}
	return out
}

// zeros are n texts that have the form of an ID.
func zeros(n int) []string { return slices.Repeat([]string{strings.Repeat("0", 64)}, n) }

// with is l, but with s at a place.
func with(l []string, place int, s string) []string {
	l = slices.Clone(l)
	l[place] = s
	return l
}

// same tells whether two manifests are the same.
func same(a, b api.Manifest) bool {
	return a.Size == b.Size && a.Chunk == b.Chunk && slices.Equal(a.IDs, b.IDs)
}

// short is a manifest as a failure shows it.
func short(m api.Manifest) []int { return []int{m.Size, m.Chunk, len(m.IDs)} }

// cuts fails unless Cut and Manifest answer these chunks.
func cuts(t *testing.T, s string, size int, want []string) {
	t.Helper()
	if l, err := chunk.Cut(s, size); !slices.Equal(l, want) || err != api.OK {
		t.Errorf("Cut of %d bytes by %d = %d chunks, %.40q, error %d; want %d, %.40q", len(s), size, len(l), l, err, len(want), want)
	}
	m, err := chunk.Manifest(s, size)
	if err != api.OK || !same(m, api.Manifest{Size: len(s), Chunk: size, IDs: ids(want)}) {
		t.Errorf("Manifest of %d bytes by %d = %v, error %d", len(s), size, short(m), err)
	}
}

// notCut fails unless Cut and Manifest answer this error, and nothing beside it.
func notCut(t *testing.T, s string, size int, want api.Errno) {
	t.Helper()
	if l, err := chunk.Cut(s, size); len(l) != 0 || err != want {
		t.Errorf("Cut of %d bytes by %d = %d chunks, error %d; want error %d alone", len(s), size, len(l), err, want)
	}
	if m, err := chunk.Manifest(s, size); !same(m, api.Manifest{}) || err != want {
		t.Errorf("Manifest of %d bytes by %d = %v, error %d; want error %d alone", len(s), size, short(m), err, want)
	}
}

// checks fails unless Check answers this; with an error so must Put and Join, and nothing beside it.
func checks(t *testing.T, m api.Manifest, want api.Errno) {
	t.Helper()
	if err := chunk.Check(m); err != want {
		t.Errorf("Check of %v = error %d; want %d", short(m), err, want)
	}
	s, err := chunk.Put(m)
	if want == api.OK {
		if s != plainly.Manifest(m) || err != api.OK {
			t.Errorf("Put of %v = %d bytes, error %d; want %d bytes", short(m), len(s), err, len(plainly.Manifest(m)))
		}
		reads(t, s, m)
		return
	}
	if s != "" || err != want {
		t.Errorf("Put of %v = %d bytes, error %d; want error %d alone", short(m), len(s), err, want)
	}
	for _, l := range [][]string{nil, {""}, {"x"}, m.IDs} {
		notJoined(t, m, l, want)
	}
}

// reads fails unless Read answers this manifest.
func reads(t *testing.T, s string, want api.Manifest) {
	t.Helper()
	if m, err := chunk.Read(s); !same(m, want) || err != api.OK {
		t.Errorf("Read of %d bytes, %.20q, = %v, error %d; want %v", len(s), s, short(m), err, short(want))
	}
}

// notRead fails unless Read answers this error, and nothing beside it.
func notRead(t *testing.T, s string, want api.Errno) {
	t.Helper()
	if m, err := chunk.Read(s); !same(m, api.Manifest{}) || err != want {
		t.Errorf("Read of %d bytes, %.20q, = %v, error %d; want error %d alone", len(s), s, short(m), err, want)
	}
}

// joins fails unless Join answers want.
func joins(t *testing.T, m api.Manifest, l []string, want string) {
	t.Helper()
	if s, err := chunk.Join(m, l); s != want || err != api.OK {
		t.Errorf("Join of %v, %d chunks = %d bytes, %.20q, error %d; want %d, %.20q", short(m), len(l), len(s), s, err, len(want), want)
	}
}

// notJoined fails unless Join answers this error, and nothing beside it.
func notJoined(t *testing.T, m api.Manifest, l []string, want api.Errno) {
	t.Helper()
	if s, err := chunk.Join(m, l); s != "" || err != want {
		t.Errorf("Join of %v, %d chunks = %d bytes, error %d; want error %d alone", short(m), len(l), len(s), err, want)
	}
}

// Promise 9.1: Cut and Manifest.

func TestCut(t *testing.T) {
	cuts(t, "abcde", 1, []string{"a", "b", "c", "d", "e"})
	cuts(t, "abcde", 2, []string{"ab", "cd", "e"})
	cuts(t, "abcde", 3, []string{"abc", "de"})
	cuts(t, "abcde", 4, []string{"abcd", "e"})
	cuts(t, "abcde", 5, []string{"abcde"})
	cuts(t, "abcde", 6, []string{"abcde"})
	cuts(t, "abcde", api.MaxChunk, []string{"abcde"})
	cuts(t, "abcd", 2, []string{"ab", "cd"})
	cuts(t, "aaaa", 2, []string{"aa", "aa"})
	cuts(t, "\u20ac\x00\xff", 2, []string{"\xe2\x82", "\xac\x00", "\xff"})
}

func TestNoBytesHaveNoChunks(t *testing.T) {
	for _, size := range []int{1, 2, 7, 8, api.MaxChunk - 1, api.MaxChunk} {
		cuts(t, "", size, nil)
	}
}

func TestManifest(t *testing.T) {
	m, err := chunk.Manifest("abcde", 2)
	want := api.Manifest{Size: 5, Chunk: 2, IDs: []string{idOfAB, idOfCD, idOfE}}
	if err != api.OK || !same(m, want) {
		t.Errorf("Manifest of abcde by 2 = %v, error %d; want %v", m, err, want)
	}
	m, err = chunk.Manifest("", 9)
	if err != api.OK || !same(m, api.Manifest{Chunk: 9}) {
		t.Errorf("Manifest of nothing by 9 = %v, error %d", m, err)
	}
}

func TestCutOfEachLengthAndSize(t *testing.T) {
	for n := range 40 {
		for size := 1; size < 45; size++ {
			cuts(t, fill(n), size, parts(fill(n), size))
		}
	}
	for _, size := range []int{8, 9, 10, 100, 1000, 2048, 4095, 4096} {
		for _, n := range []int{size - 1, size, size + 1, 3*size - 1, 3 * size, 3*size + 1, api.MaxData - 1, api.MaxData} {
			cuts(t, fill(n), size, parts(fill(n), size))
		}
	}
}

func TestCutRefusesASize(t *testing.T) {
	for _, s := range []string{"", "abcde", fill(api.MaxData), fill(api.MaxData + 1), fill(1 << 20)} {
		for _, size := range []int{0, -1, -2, -api.MaxChunk, api.MaxChunk + 1, api.MaxData, 1 << 53, 1<<63 - 1, -1 << 63} {
			notCut(t, s, size, api.ErrArg)
		}
	}
}

func TestCutRefusesMoreThanMaxData(t *testing.T) {
	for _, n := range []int{api.MaxData + 1, api.MaxData + api.MaxChunk, 2 * api.MaxData, 1 << 20} {
		for _, size := range []int{1, 8, 9, 1000, api.MaxChunk} {
			notCut(t, fill(n), size, api.ErrLong)
		}
	}
}

func TestCutRefusesMoreThanMaxListChunks(t *testing.T) {
	for size := 1; size < 8; size++ {
		n := size * api.MaxList
		cuts(t, fill(n), size, parts(fill(n), size))
		cuts(t, fill(n-1), size, parts(fill(n-1), size))
		notCut(t, fill(n+1), size, api.ErrLong)
		notCut(t, fill(n+size), size, api.ErrLong)
		notCut(t, fill(api.MaxData), size, api.ErrLong)
	}
}

// Promise 9.1: Check, and Put, which answers Check's error.

func TestCheck(t *testing.T) {
	for _, m := range []api.Manifest{
		{Size: 5, Chunk: 2, IDs: []string{idOfAB, idOfCD, idOfE}},
		{Size: 6, Chunk: 2, IDs: zeros(3)},
		{Size: 1, Chunk: 1, IDs: zeros(1)},
		{Size: 1, Chunk: api.MaxChunk, IDs: zeros(1)},
		{Size: 0, Chunk: 1},
		{Size: 0, Chunk: api.MaxChunk, IDs: []string{}},
		{Size: api.MaxData, Chunk: api.MaxChunk, IDs: zeros(8)},
		{Size: api.MaxData, Chunk: api.MaxChunk - 1, IDs: zeros(9)},
		{Size: api.MaxData, Chunk: 8, IDs: zeros(api.MaxList)},
		{Size: api.MaxList, Chunk: 1, IDs: zeros(api.MaxList)},
		{Size: 300, Chunk: 300, IDs: []string{idOfNone}},
	} {
		checks(t, m, api.OK)
	}
}

func TestCheckAsksTheNumbers(t *testing.T) {
	for _, l := range [][]string{nil, zeros(1), {""}, zeros(api.MaxList + 1)} {
		for _, n := range []int{0, -1, api.MaxChunk + 1, api.MaxData, 1<<63 - 1, -1 << 63} {
			checks(t, api.Manifest{Size: 0, Chunk: n, IDs: l}, api.ErrRange)
			checks(t, api.Manifest{Size: 5, Chunk: n, IDs: l}, api.ErrRange)
			checks(t, api.Manifest{Size: -1, Chunk: n, IDs: l}, api.ErrRange)
		}
		for _, n := range []int{-1, -2, api.MaxData + 1, 1 << 53, 1<<63 - 1, -1 << 63} {
			checks(t, api.Manifest{Size: n, Chunk: 1, IDs: l}, api.ErrRange)
			checks(t, api.Manifest{Size: n, Chunk: api.MaxChunk, IDs: l}, api.ErrRange)
		}
	}
	checks(t, api.Manifest{}, api.ErrRange)
}

// There are as many IDs as chunks: not one more, and not one fewer.
func TestCheckCountsTheIDs(t *testing.T) {
	for size := range 20 {
		for by := 1; by < 22; by++ {
			for n := range 22 {
				want := api.ErrForm
				if n == len(parts(fill(size), by)) {
					want = api.OK
				}
				if err := chunk.Check(api.Manifest{Size: size, Chunk: by, IDs: zeros(n)}); err != want {
					t.Errorf("Check of %d by %d, %d IDs = error %d; want %d", size, by, n, err, want)
				}
			}
		}
	}
	checks(t, api.Manifest{Size: 1, Chunk: 1}, api.ErrForm)
	checks(t, api.Manifest{Size: 0, Chunk: 1, IDs: zeros(1)}, api.ErrForm)
	checks(t, api.Manifest{Size: api.MaxData, Chunk: api.MaxChunk, IDs: zeros(7)}, api.ErrForm)
	checks(t, api.Manifest{Size: api.MaxData, Chunk: api.MaxChunk, IDs: zeros(9)}, api.ErrForm)
	checks(t, api.Manifest{Size: api.MaxData, Chunk: 8, IDs: zeros(api.MaxList + 1)}, api.ErrForm)
	checks(t, api.Manifest{Size: api.MaxData, Chunk: 1, IDs: zeros(api.MaxList)}, api.ErrForm)
}

func TestCheckAsksEachID(t *testing.T) {
	m := api.Manifest{Size: 5, Chunk: 2, IDs: []string{idOfAB, idOfCD, idOfE}}
	for _, id := range []string{
		"", "0", idOfAB[1:], idOfAB + "0", idOfAB + idOfCD, strings.ToUpper(idOfAB), "g" + idOfAB[1:],
		idOfAB[:63] + "g", idOfAB[:63] + " ", idOfAB[:62] + "\u00e9", "-" + idOfAB[1:], strings.Repeat("\x00", 64),
	} {
		for place := range m.IDs {
			checks(t, api.Manifest{Size: 5, Chunk: 2, IDs: with(m.IDs, place, id)}, api.ErrForm)
		}
	}
}

// That there are too many IDs is told last: each of them was asked ahead.
func TestCheckRefusesMoreThanMaxListIDs(t *testing.T) {
	for _, c := range []struct{ size, chunk, ids int }{
		{api.MaxList + 1, 1, api.MaxList + 1},
		{2*api.MaxList + 1, 2, api.MaxList + 1},
		{api.MaxData, 7, 4682},
		{api.MaxData, 1, api.MaxData},
	} {
		l := zeros(c.ids)
		checks(t, api.Manifest{Size: c.size, Chunk: c.chunk, IDs: l}, api.ErrLong)
		checks(t, api.Manifest{Size: c.size, Chunk: c.chunk, IDs: l[1:]}, api.ErrForm)
		checks(t, api.Manifest{Size: c.size, Chunk: c.chunk, IDs: with(l, 0, "")}, api.ErrForm)
		checks(t, api.Manifest{Size: c.size, Chunk: c.chunk, IDs: with(l, c.ids-1, "x")}, api.ErrForm)
	}
}

func TestPut(t *testing.T) {
	s, err := chunk.Put(api.Manifest{Size: 300, Chunk: 150, IDs: []string{idOfAB, idOfE}})
	if want := "\xac\x02\x96\x01\x02\x40" + idOfAB + "\x40" + idOfE; s != want || err != api.OK {
		t.Errorf("Put = %q, error %d; want %q", s, err, want)
	}
	s, err = chunk.Put(api.Manifest{Chunk: api.MaxChunk})
	if want := "\x00\x80\x20\x00"; s != want || err != api.OK {
		t.Errorf("Put = %q, error %d; want %q", s, err, want)
	}
}

// Promise 9.1: Read.

func TestReadTakesWhatWasPut(t *testing.T) {
	reads(t, "\x05\x02\x03\x40"+idOfAB+"\x40"+idOfCD+"\x40"+idOfE, api.Manifest{Size: 5, Chunk: 2, IDs: []string{idOfAB, idOfCD, idOfE}})
	reads(t, "\x00\x01\x00", api.Manifest{Chunk: 1})
	for n := range 60 {
		for _, size := range []int{1, 2, 3, 7, 59, 60, 4096} {
			m, _ := chunk.Manifest(fill(n), size)
			checks(t, m, api.OK)
		}
	}
}

// What lacks bytes is cut, wherever it ends.
func TestReadRefusesWhatLacksBytes(t *testing.T) {
	whole := plainly.Manifest(api.Manifest{Size: 300, Chunk: 150, IDs: []string{idOfAB, idOfE}})
	for n := range len(whole) {
		notRead(t, whole[:n], api.ErrCut)
	}
}

// 1's errors come ahead of Check's: the manifests are none that could be.
func TestReadAnswersWiresErrors(t *testing.T) {
	id := "\x40" + idOfAB
	for _, c := range []struct {
		s    string
		want api.Errno
	}{
		{"", api.ErrCut},
		{"\x80", api.ErrCut},
		{"\x05", api.ErrCut},
		{"\x05\x00", api.ErrCut},
		{"\xff\xff\xff\x7f\x00", api.ErrCut},
		{"\x05\x00\x03" + id + id, api.ErrCut},
		{"\x05\x00\x01\x41" + idOfAB, api.ErrCut},
		{"\x80\x00\x00\x00", api.ErrForm},
		{"\x01\x80\x00\x00", api.ErrForm},
		{"\x01\x00\x80\x00", api.ErrForm},
		{"\x01\x00\x01\xc0\x00" + idOfAB, api.ErrForm},
		{"\x01\x00\x00\x00", api.ErrForm},
		{"\x01\x00\x01" + id + "\x00", api.ErrForm},
		{"\x00\x01\x00\x00", api.ErrForm},
		{"\x01\x01\x01" + id + "\x00", api.ErrForm},
		{"\x01\x01\x01" + id + "x", api.ErrForm},
		{"\x81\x80\x80\x80\x80\x80\x80\x10\x01\x00", api.ErrRange},
		{"\x80\x80\x80\x80\x80\x80\x80\x80\x01\x01\x00", api.ErrRange},
		{"\x01\x81\x80\x80\x80\x80\x80\x80\x10\x00", api.ErrRange},
		{"\x00\x00\x81\x20", api.ErrLong},
		{"\x00\x00\x81\x20" + strings.Repeat(id, api.MaxList+1), api.ErrLong},
		{"\x01\x01\x01\x81\x80\x04" + fill(api.MaxText+1), api.ErrLong},
	} {
		notRead(t, c.s, c.want)
	}
}

func TestReadAnswersChecksErrors(t *testing.T) {
	for _, m := range []api.Manifest{
		{},
		{Size: 5, IDs: zeros(1)},
		{Size: 1, Chunk: api.MaxChunk + 1, IDs: zeros(1)},
		{Size: api.MaxData + 1, Chunk: api.MaxChunk, IDs: zeros(9)},
		{Size: api.MaxNum, Chunk: api.MaxNum, IDs: zeros(1)},
		{Size: api.MaxNum, Chunk: 1, IDs: []string{"", "x"}},
	} {
		notRead(t, plainly.Manifest(m), api.ErrRange)
	}
	for _, m := range []api.Manifest{
		{Size: 1, Chunk: 1},
		{Size: 0, Chunk: 1, IDs: zeros(1)},
		{Size: 5, Chunk: 2, IDs: zeros(2)},
		{Size: 5, Chunk: 2, IDs: zeros(4)},
		{Size: 5, Chunk: 2, IDs: with(zeros(3), 1, "")},
		{Size: 5, Chunk: 2, IDs: with(zeros(3), 2, strings.ToUpper(idOfAB))},
		{Size: 5, Chunk: 2, IDs: with(zeros(3), 0, idOfAB+"0")},
		{Size: 1, Chunk: 1, IDs: []string{fill(api.MaxText)}},
		{Size: api.MaxData, Chunk: 1, IDs: zeros(api.MaxList)},
	} {
		notRead(t, plainly.Manifest(m), api.ErrForm)
	}
	// More IDs than a list has are 1's error.
	notRead(t, plainly.Manifest(api.Manifest{Size: api.MaxList + 1, Chunk: 1, IDs: zeros(api.MaxList + 1)}), api.ErrLong)
}

// Promise 9.1: Join.

func TestJoin(t *testing.T) {
	m := api.Manifest{Size: 5, Chunk: 2, IDs: []string{idOfAB, idOfCD, idOfE}}
	joins(t, m, []string{"ab", "cd", "e"}, "abcde")
	joins(t, api.Manifest{Chunk: 1}, nil, "")
	joins(t, api.Manifest{Chunk: 1}, []string{}, "")
}

// Nothing is asked of one chunk's length: only all together have Size bytes.
func TestJoinAsksTheLengthOfAllAlone(t *testing.T) {
	for _, l := range [][]string{
		{"abcde", "", ""}, {"", "", "abcde"}, {"a", "b", "cde"}, {"abcd", "e", ""}, {"", "abcde", ""},
	} {
		joins(t, api.Manifest{Size: 5, Chunk: 2, IDs: ids(l)}, l, "abcde")
		joins(t, api.Manifest{Size: 6, Chunk: 2, IDs: ids(with(l, 1, l[1]+"x"))}, with(l, 1, l[1]+"x"), l[0]+l[1]+"x"+l[2])
		notJoined(t, api.Manifest{Size: 6, Chunk: 2, IDs: ids(l)}, l, api.ErrForm)
		notJoined(t, api.Manifest{Size: 6, Chunk: 2, IDs: ids(with(l, 2, "abcdefg"))}, with(l, 2, "abcdefg"), api.ErrForm)
	}
	notJoined(t, api.Manifest{Size: 5, Chunk: 5, IDs: ids([]string{""})}, []string{""}, api.ErrForm)
	notJoined(t, api.Manifest{Size: 5, Chunk: 5, IDs: ids([]string{"abcd"})}, []string{"abcd"}, api.ErrForm)
	notJoined(t, api.Manifest{Size: 5, Chunk: 5, IDs: ids([]string{"abcdef"})}, []string{"abcdef"}, api.ErrForm)
	long := fill(1 << 20)
	notJoined(t, api.Manifest{Size: 5, Chunk: 5, IDs: ids([]string{long})}, []string{long}, api.ErrForm)
}

func TestJoinCountsTheChunks(t *testing.T) {
	m := api.Manifest{Size: 5, Chunk: 2, IDs: []string{idOfAB, idOfCD, idOfE}}
	for _, l := range [][]string{
		nil, {"ab"}, {"ab", "cd"}, {"ab", "cd", "e", ""}, {"ab", "cd", "e", "f"}, {"abcde"}, {"x", "y"}, {"x", "y", "z", "z"},
	} {
		notJoined(t, m, l, api.ErrForm)
	}
	notJoined(t, api.Manifest{Chunk: 1}, []string{""}, api.ErrForm)
	notJoined(t, m, slices.Repeat([]string{"ab"}, 10000), api.ErrForm)
}

func TestJoinAsksEachSum(t *testing.T) {
	m := api.Manifest{Size: 5, Chunk: 2, IDs: []string{idOfAB, idOfCD, idOfE}}
	l := []string{"ab", "cd", "e"}
	for place := range l {
		for _, c := range []string{"", "x", "ab\x00", "ba", "AB", "abc", "f", fill(5000)} {
			notJoined(t, m, with(l, place, c), api.ErrSum)
		}
		notJoined(t, api.Manifest{Size: 5, Chunk: 2, IDs: with(m.IDs, place, strings.Repeat("0", 64))}, l, api.ErrSum)
	}
	notJoined(t, m, []string{"cd", "ab", "e"}, api.ErrSum)
	notJoined(t, m, []string{"e", "cd", "ab"}, api.ErrSum)
	// The sums are asked ahead of the length of all.
	notJoined(t, api.Manifest{Size: 6, Chunk: 2, IDs: m.IDs}, []string{"ab", "cd", "f"}, api.ErrSum)
	notJoined(t, api.Manifest{Size: 5, Chunk: 2, IDs: m.IDs}, []string{"ab", "cd", "ef"}, api.ErrSum)
}

func TestEachByteOfAChunkIsAsked(t *testing.T) {
	s := fill(300)
	l, _ := chunk.Cut(s, 100)
	m, _ := chunk.Manifest(s, 100)
	for i := range len(s) {
		c := []byte(l[i/100])
		c[i%100] ^= 1 << (i % 8)
		notJoined(t, m, with(l, i/100, string(c)), api.ErrSum)
	}
}

// Promise 9.2: what was cut is joined as it was.

func TestWhatWasCutIsJoinedAsItWas(t *testing.T) {
	for n := range 70 {
		for size := 1; size < 75; size++ {
			thereAndBack(t, fill(n), size)
		}
	}
	for _, n := range []int{api.MaxList, api.MaxData - 1, api.MaxData} {
		for _, size := range []int{8, 9, 100, 4095, 4096} {
			thereAndBack(t, fill(n), size)
			thereAndBack(t, strings.Repeat("\x00", n), size)
		}
	}
	thereAndBack(t, fill(api.MaxList), 1)
}

// thereAndBack cuts s, and joins it by its manifest, and by that which was put and read.
func thereAndBack(t *testing.T, s string, size int) {
	t.Helper()
	l, err := chunk.Cut(s, size)
	m, merr := chunk.Manifest(s, size)
	if err != api.OK || merr != api.OK {
		t.Errorf("%d bytes by %d: Cut has error %d, Manifest %d", len(s), size, err, merr)
		return
	}
	joins(t, m, l, s)
	put, err := chunk.Put(m)
	if err != api.OK {
		t.Errorf("%d bytes by %d: Put has error %d", len(s), size, err)
	}
	read, err := chunk.Read(put)
	if err != api.OK {
		t.Errorf("%d bytes by %d: Read has error %d", len(s), size, err)
	}
	joins(t, read, l, s)
}

// What is handed in is not changed, and what was answered stays.
func TestNothingIsChanged(t *testing.T) {
	l, _ := chunk.Cut("abcde", 2)
	m, _ := chunk.Manifest("abcde", 2)
	for _, other := range []string{"vwxyz", "", "0123456789"} {
		chunk.Cut(other, 2)
		n, _ := chunk.Manifest(other, 2)
		chunk.Put(n)
		chunk.Join(n, l)
		chunk.Join(m, []string{other})
	}
	if !slices.Equal(l, []string{"ab", "cd", "e"}) {
		t.Errorf("the chunks became %q", l)
	}
	if !same(m, api.Manifest{Size: 5, Chunk: 2, IDs: []string{idOfAB, idOfCD, idOfE}}) {
		t.Errorf("the manifest became %v", m)
	}
}

// Whatever there is, what can be cut is cut as the promise says and joined again, and what is read is what is put.
func FuzzCutAndJoin(f *testing.F) {
	f.Add("abcde", 2, "\x05\x02\x03\x40"+idOfAB+"\x40"+idOfCD+"\x40"+idOfE)
	f.Add("", 1, "\x00\x01\x00")
	f.Add(fill(300), 4096, "\x01\x01\x01\x40"+idOfAB)
	f.Add(fill(5000), 1, "\x81\x80\x04")
	f.Fuzz(func(t *testing.T, s string, size int, put string) {
		switch {
		case size < 1 || size > api.MaxChunk:
			notCut(t, s, size, api.ErrArg)
		case len(s) > api.MaxData || len(parts(s, size)) > api.MaxList:
			notCut(t, s, size, api.ErrLong)
		default:
			cuts(t, s, size, parts(s, size))
			thereAndBack(t, s, size)
		}
		m, err := chunk.Read(put)
		if err != api.OK {
			notRead(t, put, err)
			return
		}
		if plainly.Manifest(m) != put {
			t.Errorf("Read of %.20q tells %v, which is put otherwise", put, short(m))
		}
		checks(t, m, api.OK)
	})
}
