package register_test

import (
	"cmp"
	"fmt"
	"math"
	"slices"
	"strings"
	"testing"

	"almonry/api"
	"almonry/plainly"
	"almonry/register"
)

// said is a fact of a backup a: this tag, said with this dot and stamp.
func said(s api.Stamp, d api.Dot, value string) api.Fact {
	return api.Fact{Dot: d, Stamp: s, Kind: api.FactTag, Name: "a", Value: value}
}

// saidAt is what replica 1's update of this number says, made at this time.
func saidAt(time, n int, value string) api.Fact {
	return said(api.Stamp{Time: time, Replica: 1}, api.Dot{Replica: 1, N: n}, value)
}

// saidOf is f, but of another kind and name.
func saidOf(f api.Fact, kind int, name string) api.Fact {
	f.Kind, f.Name = kind, name
	return f
}

// shown is how a thing is told where it is not as it should be: its beginning.
func shown(thing any) string { return fmt.Sprintf("%.500s", fmt.Sprintf("%+v", thing)) }

// strided is l in another order, each step-th fact round and round. The length of l and step have no divisor in common.
func strided(l []api.Fact, step int) []api.Fact {
	var mixed []api.Fact
	for i := range l {
		mixed = append(mixed, l[i*step%len(l)])
	}
	return mixed
}

// plainAll is what promise 17.1 says that All answers: each fact's value, put behind all that are not behind it.
func plainAll(l []api.Fact) []string {
	var rising []api.Fact
	for _, f := range l {
		i := 0
		for i < len(rising) && !plainly.Ahead(f, rising[i]) {
			i++
		}
		rising = slices.Insert(rising, i, f)
	}
	var values []string
	for _, f := range rising {
		values = append(values, f.Value)
	}
	return values
}

// plainElements is what promise 17.1 says that Elements answers: the least value, and then the least one of those above it.
func plainElements(l []api.Fact) []string {
	var rising []string
	for {
		var next *string
		for i := range l {
			above := len(rising) == 0 || l[i].Value > rising[len(rising)-1]
			if above && (next == nil || l[i].Value < *next) {
				next = &l[i].Value
			}
		}
		if next == nil {
			return rising
		}
		rising = append(rising, *next)
	}
}

// lasts fails unless Last answers this value, and leaves what is handed in.
func lasts(t *testing.T, l []api.Fact, want string, wantOK bool) {
	t.Helper()
	kept := slices.Clone(l)
	if got, ok := register.Last(l); got != want || ok != wantOK {
		t.Errorf("Last(%s) = %s, %t; want %s, %t", shown(l), shown(got), ok, shown(want), wantOK)
	}
	if !slices.Equal(l, kept) {
		t.Errorf("Last changed what was handed in: %s; want %s", shown(l), shown(kept))
	}
}

// answers fails unless a call answers these values, and leaves what is handed in.
func answers(t *testing.T, name string, call func([]api.Fact) []string, l []api.Fact, want []string) {
	t.Helper()
	kept := slices.Clone(l)
	if got := call(l); !slices.Equal(got, want) {
		t.Errorf("%s(%s) = %s; want %s", name, shown(l), shown(got), shown(want))
	}
	if !slices.Equal(l, kept) {
		t.Errorf("%s changed what was handed in: %s; want %s", name, shown(l), shown(kept))
	}
}

// lists fails unless All answers these values.
func lists(t *testing.T, l []api.Fact, want ...string) {
	t.Helper()
	answers(t, "All", register.All, l, want)
}

// has fails unless Elements answers these values.
func has(t *testing.T, l []api.Fact, want ...string) {
	t.Helper()
	answers(t, "Elements", register.Elements, l, want)
}

// asks fails unless Of answers these facts, and leaves what is handed in.
func asks(t *testing.T, l []api.Fact, kind int, name string, want ...api.Fact) {
	t.Helper()
	kept := slices.Clone(l)
	if got := register.Of(l, kind, name); !slices.Equal(got, want) {
		t.Errorf("Of(%s, %d, %q) = %s; want %s", shown(l), kind, name, shown(got), shown(want))
	}
	if !slices.Equal(l, kept) {
		t.Errorf("Of changed what was handed in: %s; want %s", shown(l), shown(kept))
	}
}

// holds fails unless Last, All and Elements of l are what the promise's words say.
func holds(t *testing.T, l []api.Fact) {
	t.Helper()
	all, last := plainAll(l), ""
	if len(l) > 0 {
		last = all[len(all)-1]
	}
	lasts(t, l, last, len(l) > 0)
	lists(t, l, all...)
	has(t, l, plainElements(l)...)
}

// Promise 17.1: Of.

func TestOf(t *testing.T) {
	x, y := saidAt(5, 1, "x"), saidAt(4, 2, "y")
	label, other, keep := saidOf(x, api.FactLabel, "a"), saidOf(x, api.FactTag, "b"), saidOf(y, api.FactKeep, "b")
	l := []api.Fact{x, other, label, keep, y, x}
	asks(t, l, api.FactTag, "a", x, y, x)
	asks(t, l, api.FactTag, "b", other)
	asks(t, l, api.FactLabel, "a", label)
	asks(t, l, api.FactLabel, "b")
	asks(t, l, api.FactKeep, "a")
	asks(t, l, api.FactKeep, "b", keep)
	asks(t, l, api.FactBackup, "a")
	asks(t, l, 0, "a", x, label, y, x)
	asks(t, l, 0, "b", other, keep)
	asks(t, l, 0, "c")
	asks(t, l, 0, "")
	for kind := range 6 {
		asks(t, nil, kind, "a")
		asks(t, []api.Fact{}, kind, "")
	}
}

// Facts stand as they stood, whatever their dots, stamps and values: none is left out, and none overtakes another one.
func TestOfLeavesFactsAsTheyStand(t *testing.T) {
	x, y := saidAt(5, 1, "x"), saidAt(4, 2, "y")
	for _, l := range plainly.Orders([]api.Fact{x, x, y, said(y.Stamp, x.Dot, "x"), {Kind: api.FactTag, Name: "a"}}) {
		asks(t, l, api.FactTag, "a", l...)
		asks(t, l, 0, "a", l...)
	}
}

// A kind is any number, and so is a fact's; 0 alone stands for each kind.
func TestOfOfEachKind(t *testing.T) {
	kinds := []int{0, 1, 2, 3, 4, 5, -1, 255, 256, 1 << 32, 1<<32 + 1, math.MaxInt, math.MinInt}
	var l []api.Fact
	for _, kind := range kinds {
		l = append(l, saidOf(saidAt(1, 1, "x"), kind, "a"), saidOf(saidAt(1, 1, "x"), kind, "b"))
	}
	for i, kind := range kinds {
		if kind != 0 {
			asks(t, l, kind, "a", l[2*i])
			asks(t, l, kind, "b", l[2*i+1])
		}
		asks(t, l[2*i:2*i+2], 0, "a", l[2*i])
		asks(t, l[2*i:2*i+2], 0, "b", l[2*i+1])
	}
	asks(t, l, 6, "a")
	asks(t, l, -2, "b")
	var each []api.Fact
	for i := 0; i < len(l); i += 2 {
		each = append(each, l[i])
	}
	asks(t, l, 0, "a", each...)
}

// A name is just the one that is asked for, byte by byte.
func TestOfOfEachName(t *testing.T) {
	names := []string{"", "a", "A", "b", "aa", "ab", "a\x00", "\x00", "a ", "\xff", "\u00e9", "e\u0301", strings.Repeat("a", 64), strings.Repeat("a", 65)}
	var l []api.Fact
	for _, name := range names {
		l = append(l, saidOf(saidAt(1, 1, "x"), api.FactTag, name))
	}
	for i, name := range names {
		asks(t, l, api.FactTag, name, l[i])
		asks(t, l, 0, name, l[i])
		asks(t, l, api.FactLabel, name)
	}
	asks(t, l, 0, "aaa")
}

// Room behind what is handed in is not written to, and what is handed out does not change with it.
func TestOfAnswersAListOfItsOwn(t *testing.T) {
	x, y := saidAt(5, 1, "x"), saidAt(4, 2, "y")
	l := []api.Fact{y, x, y, y}
	kept := slices.Clone(l)
	got := register.Of(l[:2], api.FactTag, "a")
	if more := append(got, x, x); len(more) != 4 || !slices.Equal(l, kept) {
		t.Errorf("what Of answered shares room with what was handed in: %s", shown(l))
	}
	clear(l)
	if !slices.Equal(got, []api.Fact{y, x}) {
		t.Errorf("what Of answered hangs on what was handed in: %s", shown(got))
	}
}

// Promise 17.1: Last.

func TestLast(t *testing.T) {
	lasts(t, nil, "", false)
	lasts(t, []api.Fact{}, "", false)
	lasts(t, []api.Fact{{}}, "", true)
	lasts(t, []api.Fact{saidAt(5, 1, "")}, "", true)
	lasts(t, []api.Fact{saidAt(5, 1, "x")}, "x", true)
	for _, l := range plainly.Orders([]api.Fact{saidAt(3, 1, "b"), saidAt(1, 3, "c"), saidAt(2, 2, "d")}) {
		lasts(t, l, "b", true)
	}
	for _, l := range plainly.Orders([]api.Fact{saidAt(3, 1, ""), saidAt(1, 3, "c"), saidAt(1, 3, "c")}) {
		lasts(t, l, "", true)
	}
}

// steps are changes, each of which makes a fact greater; the ones ahead weigh more than those behind.
func steps() []func(f *api.Fact, n int) {
	return []func(f *api.Fact, n int){
		func(f *api.Fact, n int) { f.Stamp.Time = n },
		func(f *api.Fact, n int) { f.Stamp.Count = n },
		func(f *api.Fact, n int) { f.Stamp.Replica = n },
		func(f *api.Fact, n int) { f.Dot.Replica = n },
		func(f *api.Fact, n int) { f.Dot.N = n },
	}
}

// Of two facts that differ in some part, the first such part tells which one is greater, though all behind it tell otherwise.
func TestEachPartComesAheadOfThoseBehindIt(t *testing.T) {
	edges := []int{math.MinInt, -1, 0, 1, 15, 16, api.MaxTime, api.MaxCount + 1, math.MaxInt}
	for i, step := range steps() {
		for j, less := range edges {
			for _, more := range edges[j+1:] {
				low, high := said(api.Stamp{}, api.Dot{}, "y"), said(api.Stamp{}, api.Dot{}, "x")
				step(&low, less)
				step(&high, more)
				for _, behind := range steps()[i+1:] {
					behind(&low, math.MaxInt)
					behind(&high, math.MinInt)
				}
				for _, l := range plainly.Orders([]api.Fact{low, high}) {
					lasts(t, l, "x", true)
					lists(t, l, "y", "x")
				}
			}
		}
	}
}

// Of facts of one stamp and dot the values tell, as bytes.
func TestValuesComeLast(t *testing.T) {
	values := []string{"", "\x00", "A", "Z", "a", "a\x00", "aa", "ab", "b", "z", "\x7f", "\x80", "\u00e9", "\xff", "\xff\x00"}
	var l []api.Fact
	for _, value := range values {
		l = append(l, saidAt(5, 1, value))
	}
	lists(t, l, values...)
	lasts(t, l, "\xff\x00", true)
	for _, step := range []int{2, 4, 7, 8, 11, 13, 14} {
		mixed := strided(l, step)
		lists(t, mixed, values...)
		lasts(t, mixed, "\xff\x00", true)
	}
}

// Kinds and names tell nothing of what was said last.
func TestKindsAndNamesTellNothing(t *testing.T) {
	for _, kind := range []int{math.MinInt, 0, api.FactBackup, api.FactLabel, api.FactTag, api.FactKeep, math.MaxInt} {
		for _, name := range []string{"", "a", "b"} {
			for _, first := range []api.Fact{saidAt(4, 9, "y"), saidAt(5, 1, "y"), saidAt(5, 2, "a")} {
				for _, l := range plainly.Orders([]api.Fact{saidOf(first, kind, name), saidAt(5, 2, "x")}) {
					lasts(t, l, "x", true)
					lists(t, l, first.Value, "x")
				}
			}
			for _, l := range plainly.Orders([]api.Fact{saidOf(saidAt(5, 2, "x"), kind, name), saidAt(5, 2, "x")}) {
				lasts(t, l, "x", true)
				lists(t, l, "x", "x")
				has(t, l, "x")
			}
		}
	}
}

// Promise 17.1: All.

func TestAll(t *testing.T) {
	lists(t, nil)
	lists(t, []api.Fact{})
	lists(t, []api.Fact{{}}, "")
	lists(t, []api.Fact{saidAt(5, 1, "x")}, "x")
	// Each fact's value is told, also where another one says it too.
	b, a, later := saidAt(1, 1, "b"), saidAt(2, 2, "a"), saidAt(3, 3, "b")
	for _, l := range plainly.Orders([]api.Fact{b, a, later}) {
		lists(t, l, "b", "a", "b")
	}
	for _, l := range plainly.Orders([]api.Fact{b, b, a, a}) {
		lists(t, l, "b", "b", "a", "a")
	}
	for _, l := range plainly.Orders([]api.Fact{saidAt(1, 1, ""), saidAt(1, 1, "x"), saidAt(2, 1, ""), saidAt(1, 2, "w")}) {
		lists(t, l, "", "x", "w", "")
	}
}

// Promise 17.1: Elements.

func TestElements(t *testing.T) {
	has(t, nil)
	has(t, []api.Fact{})
	has(t, []api.Fact{{}}, "")
	has(t, []api.Fact{{}, {}, {Kind: 1}}, "")
	b, a, later := saidAt(1, 1, "b"), saidAt(2, 2, "a"), saidAt(3, 3, "b")
	for _, l := range plainly.Orders([]api.Fact{b, a, later}) {
		has(t, l, "a", "b")
	}
	for _, l := range plainly.Orders([]api.Fact{b, b, later, saidOf(a, api.FactLabel, "z")}) {
		has(t, l, "a", "b")
	}
	for _, l := range plainly.Orders([]api.Fact{saidAt(1, 1, ""), saidAt(9, 2, "\x00"), saidAt(2, 1, "\xff"), saidAt(2, 1, ""), saidAt(1, 2, "a\x00")}) {
		has(t, l, "", "\x00", "a\x00", "\xff")
	}
}

// What is handed out may be changed, and nothing that was handed in changes with it.
func TestListsOfValuesAreTheirOwn(t *testing.T) {
	l := []api.Fact{saidAt(3, 1, "b"), saidAt(1, 3, "a")}
	kept := slices.Clone(l)
	all, elements := register.All(l), register.Elements(l)
	clear(all)
	if !slices.Equal(l, kept) || !slices.Equal(elements, []string{"a", "b"}) {
		t.Errorf("All shares its list: %s, %s", shown(l), shown(elements))
	}
	clear(elements)
	has(t, l, "a", "b")
	lists(t, l, "a", "b")
}

// Facts of any kind.

// some are facts that differ in each part, some of them in one alone.
func some() []api.Fact {
	x := said(api.Stamp{Time: 5, Count: 1, Replica: 1}, api.Dot{Replica: 1, N: 2}, "x")
	l := []api.Fact{x, {}, saidOf(x, api.FactLabel, "a"), saidOf(x, api.FactTag, "b")}
	for _, step := range steps() {
		for _, n := range []int{0, 3} {
			y := x
			step(&y, n)
			l = append(l, y)
		}
	}
	for _, value := range []string{"", "w", "y"} {
		y := x
		y.Value = value
		l = append(l, y)
	}
	// So that it can be told which one of them stands where.
	for i := range l[4:] {
		if l[4+i].Value == "x" {
			l[4+i].Value += string(rune('a' + i))
		}
	}
	return l
}

func TestThreeOfSome(t *testing.T) {
	l := some()
	for i := range l {
		holds(t, l[i:i+1])
		for j := range l {
			holds(t, []api.Fact{l[i], l[j]})
			for k := range l {
				holds(t, []api.Fact{l[i], l[j], l[k]})
			}
		}
	}
}

// bits is a fact whose parts are the bits of a number below 2048.
func bits(n int) api.Fact {
	f := said(api.Stamp{Time: n & 1, Count: n >> 1 & 1, Replica: n >> 2 & 1}, api.Dot{Replica: n >> 3 & 1, N: n >> 4 & 1}, string(rune('s'+n>>5&7)))
	return saidOf(f, n>>8&3, string(rune('a'+n>>10&1)))
}

func TestListsOfManyFacts(t *testing.T) {
	var all []api.Fact
	for n := range 2048 {
		all = append(all, bits(n))
	}
	for _, step := range []int{1, 7, 33, 311, 1001, 1023, 1361, 2015, 2047} {
		mixed := strided(all, step)
		for _, n := range []int{2, 3, 5, 12, 40, 200} {
			holds(t, mixed[:n])
			holds(t, mixed[len(mixed)-n:])
			holds(t, slices.Concat(mixed[:n], mixed[:n/2]))
		}
		for kind := range 5 {
			var want []api.Fact
			for _, f := range mixed {
				if f.Name == "a" && (kind == 0 || f.Kind == kind) {
					want = append(want, f)
				}
			}
			asks(t, mixed, kind, "a", want...)
		}
	}
}

// Many facts are not slow.
func TestLongLists(t *testing.T) {
	var l []api.Fact
	var values []string
	for i := range 1 << 17 {
		values = append(values, fmt.Sprintf("%06d", i))
		l = append(l, saidAt(i, i, values[i]))
	}
	mixed := strided(l, 54321)
	lists(t, mixed, values...)
	has(t, mixed, values...)
	lasts(t, mixed, values[len(values)-1], true)
	asks(t, l, api.FactTag, "a", l...)
	asks(t, l, api.FactLabel, "a")
}

// factsOf are facts told by bytes, eight a fact.
func factsOf(s string) []api.Fact {
	var l []api.Fact
	for ; len(s) >= 8; s = s[8:] {
		stamp := api.Stamp{Time: int(int8(s[0])), Count: int(int8(s[1])), Replica: int(int8(s[2]))}
		f := said(stamp, api.Dot{Replica: int(int8(s[3])), N: int(int8(s[4]))}, s[5:6])
		l = append(l, saidOf(f, int(int8(s[6])), s[7:8]))
	}
	return l
}

func FuzzPlainWords(f *testing.F) {
	f.Add("", 0, "a")
	f.Add("\x01\x02\x03\x04\x05x\x01a", 1, "a")
	f.Add("\x01\x02\x03\x04\x05x\x01a\x01\x02\x03\x04\x05w\x02a\x00\x02\x03\xff\x05w\x02b", 2, "a")
	f.Fuzz(func(t *testing.T, s string, kind int, name string) {
		if len(s) > 1<<10 {
			return
		}
		l := factsOf(s)
		holds(t, l)
		those := register.Of(l, kind, name)
		others := 0
		for i, f := range l {
			switch asked := f.Name == name && (kind == 0 || f.Kind == kind); {
			case !asked:
				others++
			case i-others >= len(those) || those[i-others] != f:
				t.Fatalf("Of(%s, %d, %q) = %s", shown(l), kind, name, shown(those))
			}
		}
		if len(those)+others != len(l) {
			t.Fatalf("Of(%s, %d, %q) = %s", shown(l), kind, name, shown(those))
		}
		slices.SortFunc(l, func(a, b api.Fact) int { return cmp.Compare(a.Value, b.Value) })
		holds(t, l)
	})
}
