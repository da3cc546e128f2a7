package fact_test

import (
	"fmt"
	"math"
	"slices"
	"strings"
	"testing"

	"almonry/api"
	"almonry/chunk"
	"almonry/dot"
	"almonry/fact"
	"almonry/plainly"
	"almonry/stamp"
)

// kinds are those that there are, rising.
func kinds() []int { return []int{api.FactBackup, api.FactLabel, api.FactTag, api.FactKeep} }

// say is a fact that replica 2 made.
func say(kind int, name, value string) api.Fact {
	return api.Fact{
		Dot:   api.Dot{Replica: 2, N: 5},
		Stamp: api.Stamp{Time: 7, Count: 1, Replica: 2},
		Kind:  kind, Name: name, Value: value,
	}
}

// each is a fact of each kind, rising.
func each() []api.Fact {
	return []api.Fact{
		say(api.FactBackup, "b", plainly.ManifestOf(5, 2)),
		say(api.FactLabel, "b", "of a day"),
		say(api.FactTag, "b", "kept"),
		say(api.FactKeep, "b", "\x3f\xf0\x00\x00\x00\x00\x00\x00"),
	}
}

// at is f, made by another replica.
func at(f api.Fact, replica int) api.Fact {
	f.Dot.Replica, f.Stamp.Replica = replica, replica
	return f
}

// shown is how a thing is told where it is not as it should be: its beginning.
func shown(thing any) string { return fmt.Sprintf("%.300s", fmt.Sprintf("%#v", thing)) }

// checks fails unless Check answers this error of f.
func checks(t *testing.T, f api.Fact, want api.Errno) {
	t.Helper()
	if err := fact.Check(f); err != want {
		t.Errorf("Check of %s, a value of %d bytes, = error %d; want %d", shown(f), len(f.Value), err, want)
	}
}

// Promise 15.1: Check.

func TestCheckTakesEachKind(t *testing.T) {
	for _, f := range each() {
		for replica := range api.Replicas {
			checks(t, at(f, replica), api.OK)
		}
	}
}

// edges are numbers at which something may go over.
func edges() []int {
	return []int{
		math.MinInt, math.MinInt + 1, -api.MaxCount, -1, 0, 1, 2, 3, 4, 5, 15, 16, 17, 127, 128,
		api.MaxCount - 1, api.MaxCount, api.MaxCount + 1, api.MaxNum, math.MaxInt - 1, math.MaxInt,
	}
}

func TestCheckAsksTheDot(t *testing.T) {
	for _, replica := range edges() {
		for _, n := range edges() {
			f := say(api.FactTag, "b", "x")
			f.Dot = api.Dot{Replica: replica, N: n}
			want := api.OK
			switch {
			case replica < 0 || replica > 15 || n < 1 || n > 1<<40:
				want = api.ErrRange
			case replica != 2:
				want = api.ErrForm
			}
			checks(t, f, want)
		}
	}
}

func TestCheckAsksTheStamp(t *testing.T) {
	for _, n := range edges() {
		want := api.OK
		if n < 0 || n > 1<<40 {
			want = api.ErrRange
		}
		f := say(api.FactTag, "b", "x")
		f.Stamp.Time = n
		checks(t, f, want)
		f = say(api.FactTag, "b", "x")
		f.Stamp.Count = n
		checks(t, f, want)
	}
	for _, n := range edges() {
		f := say(api.FactTag, "b", "x")
		f.Stamp.Replica = n
		switch {
		case n < 0 || n > 15:
			checks(t, f, api.ErrRange)
		case n != 2:
			checks(t, f, api.ErrForm)
		default:
			checks(t, f, api.OK)
		}
	}
}

func TestCheckWantsOneReplica(t *testing.T) {
	for a := range api.Replicas {
		for b := range api.Replicas {
			for _, f := range each() {
				f.Dot.Replica, f.Stamp.Replica = a, b
				want := api.ErrForm
				if a == b {
					want = api.OK
				}
				checks(t, f, want)
			}
		}
	}
}

func TestCheckAsksTheKind(t *testing.T) {
	for _, kind := range edges() {
		// No value is one of each kind: the kind's own error is told apart from others.
		for _, value := range []string{"", "x", "12345678", plainly.ManifestOf(3, 1)} {
			err := fact.Check(say(kind, "b", value))
			if none := kind < 1 || kind > 4; (err == api.ErrArg) != none {
				t.Errorf("Check of kind %d, value %.30q = error %d", kind, value, err)
			}
		}
	}
}

func TestCheckAsksTheName(t *testing.T) {
	for _, f := range each() {
		for size := range 3 * api.MaxName {
			f.Name = strings.Repeat("n", size)
			want := api.OK
			if size < 1 || size > 64 {
				want = api.ErrName
			}
			checks(t, f, want)
		}
		// It is bytes that count, whatever they are.
		for _, name := range []string{"\x00", "\xff\xfe", " ", "/", strings.Repeat("é", 32), strings.Repeat("\x00", 64)} {
			f.Name = name
			checks(t, f, api.OK)
		}
		f.Name = strings.Repeat("é", 33)
		checks(t, f, api.ErrName)
		f.Name = strings.Repeat("x", api.MaxText+1)
		checks(t, f, api.ErrName)
	}
}

func TestCheckAsksALabel(t *testing.T) {
	for _, size := range []int{0, 1, 8, 64, 65, 255, 256} {
		checks(t, say(api.FactLabel, "b", strings.Repeat("l", size)), api.OK)
		checks(t, say(api.FactLabel, "b", strings.Repeat("\xff", size)), api.OK)
	}
	for _, size := range []int{257, 258, 300, 512, api.MaxText, api.MaxText + 1} {
		checks(t, say(api.FactLabel, "b", strings.Repeat("l", size)), api.ErrLong)
	}
	checks(t, say(api.FactLabel, "b", strings.Repeat("é", 128)), api.OK)
	checks(t, say(api.FactLabel, "b", strings.Repeat("é", 129)), api.ErrLong)
}

func TestCheckAsksATag(t *testing.T) {
	for size := range 300 {
		want := api.OK
		if size < 1 || size > 64 {
			want = api.ErrName
		}
		checks(t, say(api.FactTag, "b", strings.Repeat("t", size)), want)
		checks(t, say(api.FactTag, "b", strings.Repeat("\x00", size)), want)
	}
	checks(t, say(api.FactTag, "b", strings.Repeat("é", 33)), api.ErrName)
	checks(t, say(api.FactTag, "b", strings.Repeat("x", api.MaxText+1)), api.ErrName)
}

// Any 8 bytes will do: what number they are is not asked here.
func TestCheckAsksAKeep(t *testing.T) {
	for size := range 300 {
		want := api.ErrForm
		if size == 8 {
			want = api.OK
		}
		for _, c := range []string{"\x00", "\x7f", "\xff"} {
			checks(t, say(api.FactKeep, "b", strings.Repeat(c, size)), want)
		}
	}
	checks(t, say(api.FactKeep, "b", strings.Repeat("x", api.MaxText+1)), api.ErrForm)
	checks(t, say(api.FactKeep, "b", "\x7f\xf8\x00\x00\x00\x00\x00\x02"), api.OK)
}

func TestCheckAsksAManifest(t *testing.T) {
	id := plainly.ManifestOf(1, 1)[3:]
	for _, c := range []struct {
		value string
		want  api.Errno
	}{
		{plainly.ManifestOf(0, 1), api.OK},
		{plainly.ManifestOf(5, 2), api.OK},
		{plainly.ManifestOf(1, 4096), api.OK},
		{plainly.ManifestOf(251, 1), api.OK},
		{plainly.ManifestOf(32768, 131), api.OK},
		{"", api.ErrCut},
		{"\x01", api.ErrCut},
		{"\x01\x01", api.ErrCut},
		{"\x01\x01\x01", api.ErrCut},
		{"\x80\x00\x01\x00", api.ErrForm},
		{"\x01\x01\x81\x20", api.ErrLong},
		{"\x81\x80\x80\x80\x80\x80\x80\x10", api.ErrRange},
		{"\x01\x00\x01" + id, api.ErrRange},
		{"\x01\x81\x20\x01" + id, api.ErrRange},
		{"\x81\x80\x02\x01\x01" + id, api.ErrRange},
		{"\x02\x01\x01" + id, api.ErrForm},
		{"\x01\x01\x01\x04abcd", api.ErrForm},
		{plainly.ManifestOf(5, 2) + "\x00", api.ErrForm},
		{"of a day", api.ErrCut},
	} {
		checks(t, say(api.FactBackup, "b", c.value), c.want)
		if _, err := chunk.Read(c.value); err != c.want {
			t.Errorf("layer 9's Read of %.40q = error %d; want %d", c.value, err, c.want)
		}
	}
}

func TestCheckLimitsAManifest(t *testing.T) {
	// The longest manifest that there is within the limit, and the shortest one above it.
	long, longer := plainly.ManifestOf(32768, 131), plainly.ManifestOf(252, 1)
	if len(long) != 16322 || len(longer) != 16385 {
		t.Fatalf("manifests of %d and %d bytes", len(long), len(longer))
	}
	checks(t, say(api.FactBackup, "b", long), api.OK)
	checks(t, say(api.FactBackup, "b", longer), api.ErrLong)
	// At the limit it is layer 9 that tells the error.
	fill := strings.Repeat("\x00", 16384-len(long))
	checks(t, say(api.FactBackup, "b", long+fill), api.ErrForm)
	checks(t, say(api.FactBackup, "b", long+fill+"\x00"), api.ErrLong)
	checks(t, say(api.FactBackup, "b", longer[:16384]), api.ErrCut)
	checks(t, say(api.FactBackup, "b", strings.Repeat("\x80", 16384)), api.ErrCut)
	checks(t, say(api.FactBackup, "b", strings.Repeat("\x80", 16385)), api.ErrLong)
	for _, size := range []int{32767, 32768, api.MaxText, api.MaxText + 1} {
		checks(t, say(api.FactBackup, "b", strings.Repeat("\x80", size)), api.ErrLong)
	}
}

// plainCheck is what promise 15.1 says that Check answers: the first error of those that apply.
func plainCheck(f api.Fact) api.Errno {
	_, read := chunk.Read(f.Value)
	size := len(f.Value)
	for _, c := range []struct {
		applies bool
		err     api.Errno
	}{
		{dot.Check(f.Dot) != api.OK, dot.Check(f.Dot)},
		{stamp.Check(f.Stamp) != api.OK, stamp.Check(f.Stamp)},
		{f.Dot.Replica != f.Stamp.Replica, api.ErrForm},
		{!slices.Contains(kinds(), f.Kind), api.ErrArg},
		{f.Name == "" || len(f.Name) > 64, api.ErrName},
		{f.Kind == api.FactBackup && size > 16384, api.ErrLong},
		{f.Kind == api.FactBackup && read != api.OK, read},
		{f.Kind == api.FactLabel && size > 256, api.ErrLong},
		{f.Kind == api.FactTag && (size == 0 || size > 64), api.ErrName},
		{f.Kind == api.FactKeep && size != 8, api.ErrForm},
	} {
		if c.applies {
			return c.err
		}
	}
	return api.OK
}

// mixed are facts with each fault beside each other one.
func mixed() []api.Fact {
	var l []api.Fact
	for _, d := range []api.Dot{{Replica: 2, N: 5}, {Replica: 3, N: 5}, {Replica: 2}, {Replica: 16, N: 5}} {
		for _, s := range []api.Stamp{{Time: 7, Count: 1, Replica: 2}, {Time: -1, Replica: 2}, {Replica: 16}, {Replica: 3}} {
			for _, kind := range append(kinds(), 0, 5, -1) {
				for _, name := range []string{"b", "", strings.Repeat("n", 64), strings.Repeat("n", 65)} {
					for _, value := range []string{"", "x", "12345678", plainly.ManifestOf(3, 1), plainly.ManifestOf(252, 1), "\x00\x01\x00", "\x80", strings.Repeat("v", 257)} {
						l = append(l, api.Fact{Dot: d, Stamp: s, Kind: kind, Name: name, Value: value})
					}
				}
			}
		}
	}
	return l
}

func TestCheckTellsTheFirstError(t *testing.T) {
	for _, f := range mixed() {
		checks(t, f, plainCheck(f))
	}
	checks(t, api.Fact{}, api.ErrRange)
	x := say(api.FactTag, "b", "x")
	x.Dot.Replica = 1
	checks(t, x, api.ErrForm)
}

// Promise 15.1: Less.

// rising are facts that rise by name, kind, dot, stamp and value, in this order: told by the loops alone.
func rising() []api.Fact {
	var l []api.Fact
	for _, name := range []string{"", "a", "a\x00", "b", "\xff"} {
		for _, kind := range []int{math.MinInt, 1, 2, math.MaxInt} {
			for _, d := range []api.Dot{{Replica: -1, N: 9}, {Replica: 1, N: 2}, {Replica: 1, N: 10}, {Replica: 2, N: 1}} {
				for _, s := range []api.Stamp{{Time: 1, Count: 9, Replica: 9}, {Time: 2, Count: 1, Replica: 9}, {Time: 2, Count: 2}, {Time: 2, Count: 2, Replica: 1}} {
					for _, value := range []string{"", "v", "w"} {
						l = append(l, api.Fact{Dot: d, Stamp: s, Kind: kind, Name: name, Value: value})
					}
				}
			}
		}
	}
	return l
}

func TestLessIsByNameKindDotStampAndValue(t *testing.T) {
	l := rising()
	for i, a := range l {
		for j, b := range l {
			if got := fact.Less(a, b); got != (i < j) {
				t.Fatalf("Less(%v, %v) = %t", a, b, got)
			}
		}
	}
}

func TestLessByTextsBytes(t *testing.T) {
	texts := []string{"", "\x00", "\x00\x00", "\x01", "A", "Z", "a", "a\x00", "aa", "ab", "b", "é", "\xe4", "\xff", "\xff\x00"}
	if !slices.IsSorted(texts) {
		t.Fatal("the texts do not rise")
	}
	for i, a := range texts {
		for j, b := range texts {
			if got := fact.Less(say(1, a, "x"), say(1, b, "x")); got != (i < j) {
				t.Errorf("Less of names %q, %q = %t", a, b, got)
			}
			if got := fact.Less(say(1, "x", a), say(1, "x", b)); got != (i < j) {
				t.Errorf("Less of values %q, %q = %t", a, b, got)
			}
		}
	}
}

func TestLessByNumbersAtTheEdges(t *testing.T) {
	for i, m := range edges() {
		for j, n := range edges() {
			for name, set := range map[string]func(f *api.Fact, n int){
				"Kind":          func(f *api.Fact, n int) { f.Kind = n },
				"Dot.Replica":   func(f *api.Fact, n int) { f.Dot.Replica = n },
				"Dot.N":         func(f *api.Fact, n int) { f.Dot.N = n },
				"Stamp.Time":    func(f *api.Fact, n int) { f.Stamp.Time = n },
				"Stamp.Count":   func(f *api.Fact, n int) { f.Stamp.Count = n },
				"Stamp.Replica": func(f *api.Fact, n int) { f.Stamp.Replica = n },
			} {
				a, b := say(3, "b", "x"), say(3, "b", "x")
				set(&a, m)
				set(&b, n)
				if got := fact.Less(a, b); got != (i < j) {
					t.Errorf("Less of %s %d, %d = %t", name, m, n, got)
				}
			}
		}
	}
}

// Promise 15.1: Sort.

// chance answers numbers that are the same at each run, each below n.
func chance() func(n int) int {
	state := uint32(1)
	return func(n int) int {
		state = state*1664525 + 1013904223
		return int(state>>8) % n
	}
}

// shuffled is l in another order.
func shuffled(l []api.Fact) []api.Fact {
	l, next := slices.Clone(l), chance()
	for i := range l {
		j := next(i + 1)
		l[i], l[j] = l[j], l[i]
	}
	return l
}

// sorts fails unless Sort answers want, and leaves l.
func sorts(t *testing.T, l, want []api.Fact) {
	t.Helper()
	kept := slices.Clone(l)
	if got := fact.Sort(l); !slices.Equal(got, want) {
		t.Errorf("Sort of %d, %s, = %d, %s; want %d, %s", len(l), shown(l), len(got), shown(got), len(want), shown(want))
	}
	if !slices.Equal(l, kept) {
		t.Errorf("Sort changed what was handed in: %s; want %s", shown(l), shown(kept))
	}
}

func TestSortListsEachOnceRising(t *testing.T) {
	a, b, c := say(3, "a", "x"), say(3, "b", "x"), say(3, "b", "y")
	for _, l := range [][2][]api.Fact{
		{nil, nil},
		{{}, nil},
		{{a}, {a}},
		{{{}}, {{}}},
		{{a, b}, {a, b}},
		{{b, a}, {a, b}},
		{{a, a}, {a}},
		{{b, b, b}, {b}},
		{{b, a, b}, {a, b}},
		{{c, b, a}, {a, b, c}},
		{{c, a, c, b, b, a}, {a, b, c}},
		{{b, b, a, a}, {a, b}},
	} {
		sorts(t, l[0], l[1])
	}
	sorts(t, shuffled(each()), each())
}

// What no update may say is listed too, and only what is the same in all is listed once.
func TestSortOfAnyFacts(t *testing.T) {
	l := rising()
	sorts(t, l, l)
	sorts(t, shuffled(l), l)
	sorts(t, shuffled(slices.Concat(l, l, l[:9])), l)
	backward := slices.Clone(l)
	slices.Reverse(backward)
	sorts(t, backward, l)
}

func TestSortOfManyLists(t *testing.T) {
	all, next := rising(), chance()
	for size := range 200 {
		var l, want []api.Fact
		taken := map[int]bool{}
		for range size {
			// Few places of many, so that some come twice.
			place := next(1+size/2) * (len(all) / (1 + size/2))
			l, taken[place] = append(l, all[place]), true
		}
		for place, f := range all {
			if taken[place] {
				want = append(want, f)
			}
		}
		sorts(t, l, want)
	}
}

// A list may be longer than one that is put.
func TestSortOfALongList(t *testing.T) {
	want := good(5 * api.MaxList)
	sorts(t, shuffled(slices.Concat(want, want)), want)
}

func TestSortAnswersAListOfItsOwn(t *testing.T) {
	a, b, c := say(3, "a", "x"), say(3, "b", "x"), say(3, "b", "y")
	for _, l := range [][]api.Fact{{a, b, c}, {c, b, a}, {b, b, a}} {
		// Room behind the list is not written to either.
		room := append(slices.Clone(l), a, c)
		got := fact.Sort(room[:len(l)])
		want := slices.Clone(got)
		if !slices.Equal(room, append(slices.Clone(l), a, c)) {
			t.Errorf("Sort(%v) changed what was handed in: %v", l, room)
		}
		clear(room)
		if !slices.Equal(got, want) {
			t.Errorf("Sort(%v) hangs on what was handed in: %v; want %v", l, got, want)
		}
	}
}
