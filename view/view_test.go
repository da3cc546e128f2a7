package view_test

import (
	"fmt"
	"math"
	"slices"
	"strings"
	"testing"

	"almonry/api"
	"almonry/float"
	"almonry/plainly"
	"almonry/view"
)

// at is the name of a replica's update.
func at(replica, n int) api.Dot { return api.Dot{Replica: replica, N: n} }

// said is what an update says of backup a; it is made the later, the greater its number is.
func said(d api.Dot, kind int, value string) api.Fact {
	return api.Fact{Dot: d, Stamp: api.Stamp{Time: d.N, Replica: d.Replica}, Kind: kind, Name: "a", Value: value}
}

// stamped is f, but made at another time.
func stamped(s api.Stamp, f api.Fact) api.Fact {
	f.Stamp = s
	return f
}

// of is f, but of another backup.
func of(name string, f api.Fact) api.Fact {
	f.Name = name
	return f
}

// id is a chunk's ID of one digit alone.
func id(digit byte) string { return strings.Repeat(string([]byte{digit}), 64) }

// madeOf is the manifest of chunks of two bytes whose IDs have these digits.
func madeOf(digits string) api.Manifest {
	m := api.Manifest{Size: 2 * len(digits), Chunk: 2}
	for i := range len(digits) {
		m.IDs = append(m.IDs, id(digits[i]))
	}
	return m
}

// backup is a backup a that an update says, of chunks of these digits.
func backup(d api.Dot, digits string) api.Fact {
	return said(d, api.FactBackup, plainly.Manifest(madeOf(digits)))
}

// bare is an entry of a backup a that replica 1's first update made, of chunks of these digits, of which nothing else is said.
func bare(digits string) api.Entry {
	return api.Entry{Name: "a", Manifest: madeOf(digits), Dots: []api.Dot{at(1, 1)}}
}

// shown is how a thing is told where it is not as it should be: its beginning.
func shown(thing any) string { return fmt.Sprintf("%.500s", fmt.Sprintf("%+v", thing)) }

// sameBits tells whether two numbers are the same: a NaN just that NaN, and minus nought no nought.
func sameBits(a, b float64) bool { return math.Float64bits(a) == math.Float64bits(b) }

// same tells whether two entries are the same; a list that is empty may be nil.
func same(a, b api.Entry) bool {
	return a.Name == b.Name && a.Label == b.Label &&
		a.Manifest.Size == b.Manifest.Size && a.Manifest.Chunk == b.Manifest.Chunk && slices.Equal(a.Manifest.IDs, b.Manifest.IDs) &&
		slices.Equal(a.Tags, b.Tags) && slices.EqualFunc(a.Keep, b.Keep, sameBits) && slices.Equal(a.Dots, b.Dots)
}

// answers fails unless Entry answers this entry and this error, and leaves what is handed in.
func answers(t *testing.T, l []api.Fact, name string, want api.Entry, wantErr api.Errno) {
	t.Helper()
	kept := slices.Clone(l)
	if got, err := view.Entry(l, name); !same(got, want) || err != wantErr {
		t.Errorf("Entry of %d facts, %s, %q = %s, error %d; want %s, error %d", len(l), shown(l), name, shown(got), err, shown(want), wantErr)
	}
	if !slices.Equal(l, kept) {
		t.Errorf("Entry changed what was handed in: %s; want %s", shown(l), shown(kept))
	}
}

// sees fails unless backup a is seen as this entry.
func sees(t *testing.T, l []api.Fact, want api.Entry) {
	t.Helper()
	answers(t, l, "a", want, api.OK)
}

// seesNone fails unless there is no backup of this name.
func seesNone(t *testing.T, l []api.Fact, name string) {
	t.Helper()
	answers(t, l, name, api.Entry{}, api.ErrNone)
}

// lists fails unless a call answers these texts, and leaves what is handed in.
func lists(t *testing.T, name string, call func([]api.Fact) []string, l []api.Fact, want ...string) {
	t.Helper()
	kept := slices.Clone(l)
	if got := call(l); !slices.Equal(got, want) {
		t.Errorf("%s of %d facts, %s = %s; want %s", name, len(l), shown(l), shown(got), shown(want))
	}
	if !slices.Equal(l, kept) {
		t.Errorf("%s changed what was handed in: %s; want %s", name, shown(l), shown(kept))
	}
}

// named fails unless Names answers these.
func named(t *testing.T, l []api.Fact, want ...string) {
	t.Helper()
	lists(t, "Names", view.Names, l, want...)
}

// asks fails unless IDs answers those of these digits.
func asks(t *testing.T, l []api.Fact, digits string) {
	t.Helper()
	lists(t, "IDs", view.IDs, l, madeOf(digits).IDs...)
}

// full is a store's facts of a backup a, each kind said twice, apart.
func full() []api.Fact {
	return []api.Fact{
		backup(at(1, 1), "ab"), backup(at(2, 2), "c"),
		said(at(2, 6), api.FactLabel, "of a day"), said(at(1, 8), api.FactLabel, "of a week"),
		said(at(1, 5), api.FactTag, "y"), said(at(2, 3), api.FactTag, "x"),
		said(at(0, 9), api.FactKeep, float.Put(2)), said(at(0, 4), api.FactKeep, float.Put(1)),
	}
}

// fullEntry is how they are seen.
func fullEntry() api.Entry {
	return api.Entry{
		Name: "a", Manifest: madeOf("c"), Label: "of a week",
		Tags: []string{"x", "y"}, Keep: []float64{1, 2}, Dots: []api.Dot{at(1, 1), at(2, 2)},
	}
}

// noKinds are numbers of kinds of facts that there are not.
func noKinds() []int {
	return []int{math.MinInt, -1 << 32, -256, -2, -1, 0, 5, 6, 255, 256, 257, 1 << 32, 1<<32 + 1, math.MaxInt}
}

// Promise 20.1: Entry.

func TestEntry(t *testing.T) {
	l := full()
	sees(t, l, fullEntry())
	slices.Reverse(l)
	sees(t, l, fullEntry())
	// What is said more than once says no more.
	sees(t, slices.Concat(l, full(), l[3:]), fullEntry())
	sees(t, []api.Fact{backup(at(1, 1), "ab")}, bare("ab"))
	sees(t, []api.Fact{backup(at(1, 1), "")}, bare(""))
}

func TestEntryOfNone(t *testing.T) {
	for _, name := range []string{"", "a", "b"} {
		seesNone(t, nil, name)
		seesNone(t, []api.Fact{}, name)
	}
	for _, name := range []string{"", "b", "A", "aa", "a\x00", "a ", "\x00a"} {
		seesNone(t, full(), name)
	}
	// Of what is no backup's name others may say what they like.
	seesNone(t, full()[2:], "a")
	for _, f := range full()[2:] {
		seesNone(t, []api.Fact{f, of("b", backup(at(1, 1), "ab"))}, "a")
	}
	for _, kind := range noKinds() {
		seesNone(t, []api.Fact{said(at(1, 1), kind, plainly.Manifest(madeOf("ab")))}, "a")
	}
}

// A backup is seen by what is said of its name alone, whatever the name is.
func TestEntryOfEachName(t *testing.T) {
	names := []string{"", "a", "A", "b", "aa", "ab", "a\x00", "\x00", "a ", "\xff", "\u00e9", "e\u0301", strings.Repeat("a", 64), strings.Repeat("a", 65)}
	var l []api.Fact
	for i, name := range names {
		l = append(l, of(name, backup(at(i, 1), "a")), of(name, said(at(i, 2), api.FactLabel, "of "+name)),
			of(name, said(at(i, 3), api.FactTag, name+"x")), of(name, said(at(i, 4), api.FactKeep, float.Put(float64(i)))))
	}
	for i, name := range names {
		answers(t, l, name, api.Entry{
			Name: name, Manifest: madeOf("a"), Label: "of " + name,
			Tags: []string{name + "x"}, Keep: []float64{float64(i)}, Dots: []api.Dot{at(i, 1)},
		}, api.OK)
	}
	seesNone(t, l, "aaa")
}

// What is of no kind is not seen.
func TestEntryLeavesOutWhatIsOfNoKind(t *testing.T) {
	l := full()
	for i, kind := range noKinds() {
		for _, value := range []string{plainly.Manifest(madeOf("d")), "x", "w", "", float.Put(7)} {
			l = append(l, said(at(15, 100+i), kind, value))
		}
	}
	sees(t, l, fullEntry())
}

// Each kind tells its own fields alone.
func TestEntryOfOneKindMore(t *testing.T) {
	entry := bare("ab")
	for _, c := range []struct {
		f    api.Fact
		want func(e api.Entry) api.Entry
	}{
		{backup(at(3, 7), "c"), func(e api.Entry) api.Entry {
			e.Manifest, e.Dots = madeOf("c"), []api.Dot{at(1, 1), at(3, 7)}
			return e
		}},
		{said(at(3, 7), api.FactLabel, "12345678"), func(e api.Entry) api.Entry { e.Label = "12345678"; return e }},
		{said(at(3, 7), api.FactTag, "12345678"), func(e api.Entry) api.Entry { e.Tags = []string{"12345678"}; return e }},
		{said(at(3, 7), api.FactKeep, float.Put(3)), func(e api.Entry) api.Entry { e.Keep = []float64{3}; return e }},
		{said(at(3, 7), api.FactTag, plainly.Manifest(madeOf("c"))), func(e api.Entry) api.Entry {
			e.Tags = []string{plainly.Manifest(madeOf("c"))}
			return e
		}},
	} {
		for _, l := range plainly.Orders([]api.Fact{c.f, backup(at(1, 1), "ab")}) {
			sees(t, l, c.want(entry))
		}
	}
}

// lates are pairs of a fact's Stamp and Dot, each later than those ahead of it: by Time, Count, the Stamp's Replica, the Dot's, and N.
func lates() []api.Fact {
	var l []api.Fact
	for _, parts := range [][5]int{
		{math.MinInt, 9, 9, 9, 9}, {-1, 9, 9, 9, 9}, {0, 0, 0, 0, 9}, {5, -1, 9, 9, 9}, {5, 1, -1, 9, 9}, {5, 1, 2, 0, 9},
		{5, 1, 2, 3, -1}, {5, 1, 2, 3, 0}, {5, 1, 2, 3, 4}, {5, 1, 2, 3, math.MaxInt}, {5, 1, 2, 4, 0}, {5, 1, 3, 0, 0}, {5, 2, 0, 0, 0},
		{6, 0, 0, 0, 0}, {api.MaxTime + 1, 0, 0, 0, 0}, {math.MaxInt, 0, 0, 0, 0},
	} {
		l = append(l, api.Fact{
			Stamp: api.Stamp{Time: parts[0], Count: parts[1], Replica: parts[2]},
			Dot:   api.Dot{Replica: parts[3], N: parts[4]}, Name: "a",
		})
	}
	return l
}

// as is f, but of this kind and value.
func as(f api.Fact, kind int, value string) api.Fact {
	f.Kind, f.Value = kind, value
	return f
}

// The manifest and the label are those that were said last, by Stamps, then Dots, then Values.
func TestTheLastIsSeen(t *testing.T) {
	late := lates()
	for i, early := range late {
		for _, f := range late[i+1:] {
			two := []api.Fact{as(early, api.FactBackup, plainly.Manifest(madeOf("b"))), as(f, api.FactBackup, plainly.Manifest(madeOf("a")))}
			dots := []api.Dot{early.Dot, f.Dot}
			if f.Dot.Replica < early.Dot.Replica || f.Dot.Replica == early.Dot.Replica && f.Dot.N < early.Dot.N {
				dots = []api.Dot{f.Dot, early.Dot}
			}
			for _, l := range plainly.Orders(two) {
				sees(t, l, api.Entry{Name: "a", Manifest: madeOf("a"), Dots: slices.Compact(slices.Clone(dots))})
			}
			labels := []api.Fact{backup(at(1, 1), "a"), as(early, api.FactLabel, "z"), as(f, api.FactLabel, "b")}
			want := bare("a")
			want.Label = "b"
			for _, l := range plainly.Orders(labels) {
				sees(t, l, want)
			}
		}
		// Of two that were said at once the greater Value is the last.
		for _, l := range plainly.Orders([]api.Fact{as(early, api.FactBackup, plainly.Manifest(madeOf("a"))), as(early, api.FactBackup, plainly.Manifest(madeOf("b")))}) {
			sees(t, l, api.Entry{Name: "a", Manifest: madeOf("b"), Dots: []api.Dot{early.Dot}})
		}
		want := bare("a")
		want.Label = "xy"
		for _, l := range plainly.Orders([]api.Fact{backup(at(1, 1), "a"), as(early, api.FactLabel, "xy"), as(early, api.FactLabel, "x")}) {
			sees(t, l, want)
		}
	}
}

// A label that was said last stands, also where it is empty.
func TestAnEmptyLabel(t *testing.T) {
	sees(t, []api.Fact{backup(at(1, 1), "a"), said(at(1, 2), api.FactLabel, "x"), said(at(1, 3), api.FactLabel, "")}, bare("a"))
	long := bare("a")
	long.Label = strings.Repeat("\xff", 5000)
	sees(t, []api.Fact{backup(at(1, 1), "a"), said(at(1, 2), api.FactLabel, "x"), said(at(1, 3), api.FactLabel, long.Label)}, long)
}

// notManifests are texts that layer 9 does not read.
func notManifests() []string {
	s := plainly.Manifest(madeOf("ab"))
	l := []string{
		"x", s + "\x00", plainly.Manifest(api.Manifest{}), plainly.Manifest(api.Manifest{Size: 1, Chunk: 4097, IDs: []string{id('a')}}),
		plainly.Manifest(api.Manifest{Size: 32769, Chunk: 4096, IDs: madeOf("012345678").IDs}),
		plainly.Manifest(api.Manifest{Size: 2, Chunk: 2}), plainly.Manifest(api.Manifest{Size: 2, Chunk: 2, IDs: []string{id('A')}}),
		plainly.Manifest(api.Manifest{Size: 2, Chunk: 2, IDs: []string{"ab"}}), plainly.Manifest(api.Manifest{Chunk: 2, IDs: []string{id('a')}}),
		"\x80\x00" + s[1:],
	}
	for i := range s {
		l = append(l, s[:i])
	}
	return l
}

// A manifest that is none is seen as the zero one, and not as one that was said ahead of it; all else is seen.
func TestEntryOfWhatIsNoManifest(t *testing.T) {
	for _, value := range notManifests() {
		entry := api.Entry{Name: "a", Dots: []api.Dot{at(1, 1)}}
		sees(t, []api.Fact{said(at(1, 1), api.FactBackup, value)}, entry)
		l := append(full(), said(at(1, 9), api.FactBackup, value))
		entry = fullEntry()
		entry.Manifest, entry.Dots = api.Manifest{}, []api.Dot{at(1, 1), at(1, 9), at(2, 2)}
		sees(t, l, entry)
		// It is the last one alone that tells.
		l[len(l)-1].Stamp = api.Stamp{Time: 1, Count: 7}
		entry.Manifest = madeOf("c")
		sees(t, l, entry)
	}
}

// Manifests of each length, those that layer 15 would not take too, are seen.
func TestEntryOfLongManifests(t *testing.T) {
	for _, n := range []int{1, 2, 100, 252, 253, 4095, 4096} {
		m := api.Manifest{Size: n, Chunk: 1}
		for range n {
			m.IDs = append(m.IDs, id('f'))
		}
		sees(t, []api.Fact{said(at(1, 1), api.FactBackup, plainly.Manifest(m))}, api.Entry{Name: "a", Manifest: m, Dots: []api.Dot{at(1, 1)}})
	}
	var many api.Manifest
	many.Size, many.Chunk = 4097, 1
	for range 4097 {
		many.IDs = append(many.IDs, id('f'))
	}
	sees(t, []api.Fact{said(at(1, 1), api.FactBackup, plainly.Manifest(many))}, api.Entry{Name: "a", Dots: []api.Dot{at(1, 1)}})
}

// Tags are seen each once, rising, whoever said them, and however many they are.
func TestEntryOfTags(t *testing.T) {
	entry := bare("a")
	entry.Tags = []string{"", "\x00", "A", "a", "a\x00", "aa", "b", "\u00e9", "\xff"}
	l := []api.Fact{backup(at(1, 1), "a")}
	for i, tag := range entry.Tags {
		l = append(l, said(at(2, 9-i), api.FactTag, tag), said(at(3, i), api.FactTag, tag), said(at(3, i), api.FactTag, tag))
	}
	sees(t, l, entry)
	slices.Reverse(l)
	sees(t, l, entry)
	l, entry.Tags = l[len(l)-1:], nil
	for i := range 300 {
		entry.Tags = append(entry.Tags, fmt.Sprintf("%03d", i))
		l = append(l, said(at(i%16, i), api.FactTag, fmt.Sprintf("%03d", 299-i)))
	}
	sees(t, l, entry)
}

// numbers are some of each sort, by rising Keys; the last one is the NaN.
func numbers() []float64 {
	return []float64{
		math.Inf(-1), -math.MaxFloat64, -1.5, -1, -math.SmallestNonzeroFloat64, math.Copysign(0, -1), 0,
		math.SmallestNonzeroFloat64, 1, 1.5, 7, math.MaxFloat64, math.Inf(1), math.Float64frombits(0x7ff8000000000001),
	}
}

// bits are a number's bytes, whatever NaN it is.
func bits(x uint64) string {
	var s []byte
	for shift := 56; shift >= 0; shift -= 8 {
		s = append(s, byte(x>>shift))
	}
	return string(s)
}

// Numbers are seen each once, rising; minus nought is not plus nought, and the NaN is behind all.
func TestEntryOfKeeps(t *testing.T) {
	entry := bare("a")
	entry.Keep = numbers()
	l := []api.Fact{backup(at(1, 1), "a")}
	for i, x := range numbers() {
		s := bits(math.Float64bits(x))
		l = append(l, said(at(2, i), api.FactKeep, s), said(at(3, 20-i), api.FactKeep, s), said(at(3, 20-i), api.FactKeep, s))
	}
	sees(t, l, entry)
	slices.Reverse(l)
	sees(t, l, entry)
	for _, x := range numbers() {
		entry.Keep = []float64{x}
		sees(t, []api.Fact{said(at(1, 2), api.FactKeep, bits(math.Float64bits(x))), backup(at(1, 1), "a")}, entry)
	}
	// Keys rise otherwise than bytes do.
	entry.Keep = []float64{-2, -1, 1, 2}
	for _, l := range plainly.Orders([]api.Fact{
		backup(at(1, 1), "a"), said(at(1, 2), api.FactKeep, float.Put(1)), said(at(1, 3), api.FactKeep, float.Put(-1)),
		said(at(1, 4), api.FactKeep, float.Put(2)), said(at(1, 5), api.FactKeep, float.Put(-2)),
	}) {
		sees(t, l, entry)
	}
}

// What layer 5 does not read is no number, and is not seen; the others are.
func TestEntryLeavesOutWhatIsNoKeep(t *testing.T) {
	wrong := []string{
		bits(0x7ff8000000000000), bits(0x7ff0000000000001), bits(0xfff8000000000001), bits(0xfff8000000000000), bits(0x7fffffffffffffff), bits(math.MaxUint64),
		bits(math.Float64bits(1)) + "\x00",
	}
	for n := range 20 {
		if n != 8 {
			wrong = append(wrong, strings.Repeat("\x00", n), strings.Repeat("7", n))
		}
	}
	all := []api.Fact{backup(at(1, 1), "a")}
	for i, value := range wrong {
		f := said(at(2, i+1), api.FactKeep, value)
		sees(t, []api.Fact{f, backup(at(1, 1), "a")}, bare("a"))
		all = append(all, f)
	}
	sees(t, all, bare("a"))
	entry := bare("a")
	entry.Keep = []float64{-1, 7}
	sees(t, append(all, said(at(1, 2), api.FactKeep, float.Put(7)), said(at(1, 3), api.FactKeep, float.Put(-1))), entry)
}

// The updates that made the backup are seen, each once, rising, and none that said something else of it.
func TestEntryOfDots(t *testing.T) {
	dots := []api.Dot{
		at(math.MinInt, 1), at(-1, 7), at(0, 1), at(0, 2), at(0, 15), at(1, math.MinInt), at(1, -1), at(1, 0), at(1, 1), at(1, 2),
		at(2, 1), at(15, 1), at(16, 0), at(math.MaxInt, math.MaxInt),
	}
	var l []api.Fact
	for i, d := range dots {
		// The later, the smaller the dot is.
		f := stamped(api.Stamp{Time: 20 - i}, backup(d, "a"))
		l = append(l, f, f, stamped(api.Stamp{Time: i}, backup(d, "b")), stamped(api.Stamp{Time: i}, backup(d, "")))
		l = append(l, of("b", backup(at(3, i+1), "b")), said(at(4, i+1), 0, ""))
	}
	for _, l := range [][]api.Fact{l, slices.Concat(l[20:], l[:40])} {
		sees(t, l, api.Entry{Name: "a", Manifest: madeOf("a"), Dots: dots})
		slices.Reverse(l)
		sees(t, l, api.Entry{Name: "a", Manifest: madeOf("a"), Dots: dots})
	}
	one := []api.Fact{backup(at(1, 1), "a"), said(at(1, 2), api.FactTag, "x"), said(at(0, 9), api.FactTag, "x"), said(at(4, 4), 0, ""), of("b", backup(at(0, 3), "b"))}
	entry := bare("a")
	entry.Tags = []string{"x"}
	sees(t, one, entry)
}

// What is handed out may be changed, and nothing that was handed in changes with it, nor what is told behind it.
func TestEntryAnswersNewLists(t *testing.T) {
	l := full()
	a, _ := view.Entry(l, "a")
	b, _ := view.Entry(l, "a")
	clear(a.Manifest.IDs)
	clear(a.Tags)
	clear(a.Keep)
	clear(a.Dots)
	if !same(b, fullEntry()) || !slices.Equal(l, full()) {
		t.Errorf("another entry is %s, and facts are %s", shown(b), shown(l))
	}
	clear(l)
	if !same(b, fullEntry()) {
		t.Errorf("an entry hangs on what was handed in: %s", shown(b))
	}
}
