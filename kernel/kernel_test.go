package kernel_test

import (
	"fmt"
	"math"
	"slices"
	"strings"
	"testing"

	"almonry/api"
	"almonry/causal"
	"almonry/fact"
	"almonry/kernel"
	"almonry/plainly"
)

// at is the name of a replica's update.
func at(replica, n int) api.Dot { return api.Dot{Replica: replica, N: n} }

// of is the context of a vector, and of dots beyond it.
func of(v api.Vector, cloud ...api.Dot) api.Context { return api.Context{V: v, Cloud: cloud} }

// tag is what an update says: backup a has this tag.
func tag(d api.Dot, value string) api.Fact {
	return api.Fact{Dot: d, Stamp: api.Stamp{Time: 5, Count: 1, Replica: d.Replica}, Kind: api.FactTag, Name: "a", Value: value}
}

// later is f, made at another time.
func later(f api.Fact) api.Fact {
	f.Stamp.Time++
	return f
}

// again is f, made at the same time, behind it.
func again(f api.Fact) api.Fact {
	f.Stamp.Count++
	return f
}

// named is f, but of another backup.
func named(f api.Fact, name string) api.Fact {
	f.Name = name
	return f
}

// label is f's update, with a label.
func label(f api.Fact) api.Fact {
	f.Kind = api.FactLabel
	return f
}

// store is facts, and a context that may have their dots.
type store struct {
	l []api.Fact
	c api.Context
}

// join is Join of two stores.
func join(a, b store) store {
	l, c := kernel.Join(a.l, a.c, b.l, b.c)
	return store{l, c}
}

// apply is Apply of a delta to a store.
func apply(s store, d api.Delta) store {
	l, c := kernel.Apply(s.l, s.c, d)
	return store{l, c}
}

// same tells whether two stores have the same facts, and contexts with the same fields.
func same(a, b store) bool {
	return slices.Equal(a.l, b.l) && a.c.V == b.c.V && slices.Equal(a.c.Cloud, b.c.Cloud)
}

// copied is a store that shares no memory with s.
func copied(s store) store {
	return store{slices.Clone(s.l), of(s.c.V, slices.Clone(s.c.Cloud)...)}
}

// shown is how a thing is told where it is not as it should be: its beginning.
func shown(thing any) string { return fmt.Sprintf("%.500s", fmt.Sprintf("%+v", thing)) }

// chance answers numbers that look like chance, and are the same ones each time.
func chance() func(int) int {
	state := uint32(1)
	return func(n int) int {
		state = state*1664525 + 1013904223
		return int(state>>8) % n
	}
}

// shuffled is l in another order.
func shuffled[T any](l []T, next func(int) int) []T {
	l = slices.Clone(l)
	for i := range l {
		j := next(i + 1)
		l[i], l[j] = l[j], l[i]
	}
	return l
}

// odd are n facts, each of an update of its own, none of which stands behind another one.
func odd(n int) ([]api.Fact, []api.Dot) {
	var l []api.Fact
	var dots []api.Dot
	for i := range n {
		d := at(i*api.Replicas/n, 2*i+2)
		l, dots = append(l, tag(d, "x")), append(dots, d)
	}
	return l, dots
}

// notNames are some dots that are no names of updates.
func notNames() []api.Dot {
	return []api.Dot{
		{}, at(-1, 1), at(16, 1), at(0, -1), at(3, api.MaxCount+1), at(math.MaxInt, math.MaxInt), at(math.MinInt, 1), at(15, math.MinInt),
	}
}

// Promise 16.1: Check.

// checks fails unless Check answers this error.
func checks(t *testing.T, s store, want api.Errno) {
	t.Helper()
	if err := kernel.Check(s.l, s.c); err != want {
		t.Errorf("Check of %d facts, %s, = error %d; want %d", len(s.l), shown(s), err, want)
	}
}

func TestCheckTakesStores(t *testing.T) {
	x, y := tag(at(1, 2), "x"), tag(at(1, 2), "y")
	many, dots := odd(3 * api.MaxList)
	for _, s := range []store{
		{},
		{[]api.Fact{}, api.Context{Cloud: []api.Dot{}}},
		{nil, of(api.Vector{4, 15: api.MaxCount}, at(3, 2))},
		{[]api.Fact{x}, of(api.Vector{1: 2})},
		{[]api.Fact{x}, of(api.Vector{}, at(1, 2))},
		{[]api.Fact{x}, of(api.Vector{9, 9, 9}, at(7, 7))},
		{[]api.Fact{x, y}, of(api.Vector{1: 2})},
		{[]api.Fact{tag(at(0, 1), "x"), x, tag(at(1, 3), "x")}, of(api.Vector{1, 3})},
		{[]api.Fact{label(x), x, named(label(x), "b"), named(x, "b")}, of(api.Vector{1: 2})},
		{[]api.Fact{tag(at(15, api.MaxCount), "x")}, of(api.Vector{}, at(15, api.MaxCount))},
		{[]api.Fact{tag(at(15, api.MaxCount), "x")}, of(api.Vector{15: api.MaxCount})},
		{many, of(api.Vector{}, dots...)},
	} {
		checks(t, s, api.OK)
	}
}

// An update may say things with two stamps, so long as they are not the same things.
func TestCheckAsksForOneOfADotKindNameAndValue(t *testing.T) {
	c := of(api.Vector{1: 2})
	x, y, z := tag(at(1, 2), "x"), tag(at(1, 2), "y"), tag(at(1, 2), "z")
	for _, l := range [][]api.Fact{
		{x, later(y)},
		{y, later(x)},
		{y, again(x)},
		{x, y, later(z)},
		{label(x), later(x)},
		{x, later(named(x, "b"))},
		{tag(at(1, 1), "x"), later(x)},
	} {
		checks(t, store{l, c}, api.OK)
	}
	for _, l := range [][]api.Fact{
		{x, later(x)},
		{x, y, later(x)},
		{x, y, later(y)},
		{x, z, later(x), later(y), later(z)},
		{x, later(y), later(later(x))},
		{label(x), x, later(x)},
		{label(x), later(label(x)), x},
		{tag(at(1, 1), "x"), x, later(x)},
		{x, again(x)},
		{x, y, again(x)},
		{x, again(x), later(x)},
		{x, later(x), named(x, "b")},
		{named(x, "A"), x, y, z, later(y), named(x, "b")},
	} {
		if !slices.Equal(l, fact.Sort(l)) {
			t.Fatalf("%s do not rise", shown(l))
		}
		checks(t, store{l, c}, api.ErrForm)
	}
}

func TestCheckAsksForFactsThatRise(t *testing.T) {
	l := []api.Fact{label(tag(at(1, 2), "w")), tag(at(0, 1), "x"), tag(at(1, 1), "x"), tag(at(1, 2), "w"), tag(at(1, 2), "x"), named(tag(at(0, 1), "x"), "b")}
	c := of(api.Vector{1, 2})
	checks(t, store{l, c}, api.OK)
	for i := range l {
		for j := range i {
			swapped := slices.Clone(l)
			swapped[i], swapped[j] = l[j], l[i]
			checks(t, store{swapped, c}, api.ErrForm)
		}
		checks(t, store{slices.Insert(slices.Clone(l), i, l[i]), c}, api.ErrForm)
	}
}

func TestCheckAsksForAllDots(t *testing.T) {
	l := []api.Fact{tag(at(0, 2), "x"), tag(at(0, 4), "x"), tag(at(3, 1), "x"), tag(at(15, 9), "x")}
	dots := []api.Dot{at(0, 2), at(0, 4), at(3, 1), at(15, 9)}
	checks(t, store{l, causal.Add(api.Context{}, dots)}, api.OK)
	for i := range dots {
		checks(t, store{l, causal.Add(api.Context{}, slices.Delete(slices.Clone(dots), i, i+1))}, api.ErrForm)
	}
	for _, c := range []api.Context{{}, of(api.Vector{2, 15: 9}), of(api.Vector{4, 3: 1, 15: 8}), of(api.Vector{4, 0, 0, 1}, at(15, 8), at(15, 10))} {
		checks(t, store{l, c}, api.ErrForm)
	}
	checks(t, store{l, of(api.Vector{4, 0, 0, 1}, at(15, 9))}, api.OK)
	many, rest := odd(3 * api.MaxList)
	for _, i := range []int{0, 1, api.MaxList, len(rest) / 2, len(rest) - 1} {
		checks(t, store{many, of(api.Vector{}, slices.Delete(slices.Clone(rest), i, i+1)...)}, api.ErrForm)
	}
}

// wrongFacts are such that no update may say, each with its error.
func wrongFacts() map[api.Errno]api.Fact {
	replica := tag(at(1, 1), "x")
	replica.Stamp.Replica = 2
	kind := tag(at(1, 1), "x")
	kind.Kind = 5
	return map[api.Errno]api.Fact{
		api.ErrRange: tag(at(0, 0), "x"),
		api.ErrForm:  replica,
		api.ErrArg:   kind,
		api.ErrName:  tag(at(1, 1), ""),
		api.ErrLong:  label(tag(at(1, 1), strings.Repeat("x", 257))),
	}
}

func TestCheckTellsTheFirstErrorOfFacts(t *testing.T) {
	x := tag(at(1, 1), "x")
	for err, f := range wrongFacts() {
		for _, c := range []api.Context{{}, of(api.Vector{9, 9, 9})} {
			checks(t, store{[]api.Fact{f}, c}, err)
			// It comes ahead of all ErrForm, wherever it stands.
			checks(t, store{[]api.Fact{x, x, f}, c}, err)
			checks(t, store{[]api.Fact{x, later(x), f, x}, c}, err)
			for other, g := range wrongFacts() {
				checks(t, store{[]api.Fact{x, f, g}, c}, err)
				checks(t, store{[]api.Fact{g, x, f}, c}, other)
			}
		}
	}
}

func TestCheckTellsTheContextsErrorFirst(t *testing.T) {
	x := tag(at(1, 1), "x")
	lists := [][]api.Fact{nil, {x}, {x, x}, {x, later(x)}, {tag(at(9, 9), "x")}}
	for _, f := range wrongFacts() {
		lists = append(lists, []api.Fact{f}, []api.Fact{x, f})
	}
	for _, c := range []api.Context{
		of(api.Vector{-1, 9}), of(api.Vector{1: 9, 15: api.MaxCount + 1}), of(api.Vector{-1, 9}, at(3, 4), at(3, 3)), of(api.Vector{15: math.MinInt}),
		of(api.Vector{1: 9}, at(1, 5)), of(api.Vector{}, at(1, 1)), of(api.Vector{1: 9}, at(0, 3), at(0, 3)), of(api.Vector{1: 9}, at(2, 3), at(0, 3)),
		of(api.Vector{1: 9}, at(0, 0)), of(api.Vector{1: 9}, at(16, 1)),
	} {
		want := causal.Check(c)
		if want == api.OK {
			t.Fatalf("%v is a context", c)
		}
		for _, l := range lists {
			checks(t, store{l, c}, want)
		}
	}
}

// plainCheck is what promise 16.1 says that Check answers.
func plainCheck(s store) api.Errno {
	if err := causal.Check(s.c); err != api.OK {
		return err
	}
	for _, f := range s.l {
		if err := fact.Check(f); err != api.OK {
			return err
		}
	}
	for i, f := range s.l {
		if i > 0 && !fact.Less(s.l[i-1], f) || !causal.Has(s.c, f.Dot) {
			return api.ErrForm
		}
		for _, g := range s.l[:i] {
			if g.Dot == f.Dot && g.Kind == f.Kind && g.Name == f.Name && g.Value == f.Value {
				return api.ErrForm
			}
		}
	}
	return api.OK
}

// Stores, small.

// some are facts of few updates that differ in each part, rising. The last one is of no update.
func some() []api.Fact {
	x, y := tag(at(0, 1), "x"), tag(at(0, 1), "y")
	l := []api.Fact{label(x), x, y, later(x), tag(at(0, 2), "x"), tag(at(1, 1), "x"), named(x, "b"), named(tag(at(0, 0), "x"), "b")}
	return fact.Sort(l)
}

// contexts are the contexts of each few dots, the one of a replica's second update alone among them; not all are clean.
func contexts() []api.Context {
	return []api.Context{
		{}, of(api.Vector{1}), of(api.Vector{2}), of(api.Vector{}, at(0, 2)), of(api.Vector{0, 1}), of(api.Vector{1, 1}), of(api.Vector{2, 1}), of(api.Vector{0, 1}, at(0, 2)),
		of(api.Vector{}, at(0, 1)), of(api.Vector{}, at(0, 2), at(0, 1), at(0, 2)), of(api.Vector{-1, -1, 3}), of(api.Vector{}, at(0, 0), at(0, 2), at(16, 1)),
	}
}

// chosen are those facts whose bits are set.
func chosen(l []api.Fact, bits int) []api.Fact {
	var few []api.Fact
	for i, f := range l {
		if bits>>i&1 == 1 {
			few = append(few, f)
		}
	}
	return few
}

// stores are small stores, and what is none. Of all that there are it is each step-th one.
func stores(step int) []store {
	var l []store
	for bits := range 1 << 8 {
		for i, c := range contexts() {
			if (bits*len(contexts())+i)%step == 0 {
				l = append(l, store{chosen(some(), bits), c})
			}
		}
	}
	return l
}

func TestCheckOfManyStores(t *testing.T) {
	taken := 0
	for _, s := range stores(1) {
		want := plainCheck(s)
		checks(t, s, want)
		if want == api.OK {
			taken++
		}
	}
	if taken < 100 {
		t.Errorf("%d stores are such", taken)
	}
}

// Promise 16.1: Join.

// plainJoin is what promise 16.1 says that Join answers, word by word.
func plainJoin(a, b store) store {
	var l []api.Fact
	for _, f := range a.l {
		if slices.Contains(b.l, f) || !causal.Has(b.c, f.Dot) {
			l = append(l, f)
		}
	}
	for _, f := range b.l {
		if !causal.Has(a.c, f.Dot) {
			l = append(l, f)
		}
	}
	return store{fact.Sort(l), causal.Join(a.c, b.c)}
}

// joins fails unless Join answers want, and leaves what is handed in.
func joins(t *testing.T, a, b, want store) {
	t.Helper()
	oldA, oldB := copied(a), copied(b)
	if got := join(a, b); !same(got, want) {
		t.Errorf("Join(%s, %s) = %s; want %s", shown(a), shown(b), shown(got), shown(want))
	}
	if !same(a, oldA) || !same(b, oldB) {
		t.Errorf("Join changed what was handed in: %s, %s; want %s, %s", shown(a), shown(b), shown(oldA), shown(oldB))
	}
}

func TestJoin(t *testing.T) {
	x, y, z := tag(at(0, 1), "x"), tag(at(0, 2), "y"), tag(at(1, 1), "z")
	none, one, two := store{}, of(api.Vector{1}), of(api.Vector{2})
	for _, c := range [][3]store{
		{none, none, none},
		{{l: []api.Fact{x}, c: one}, none, {[]api.Fact{x}, one}},
		{none, {[]api.Fact{x}, one}, {[]api.Fact{x}, one}},
		// Both have it.
		{{[]api.Fact{x}, one}, {[]api.Fact{x}, one}, {[]api.Fact{x}, one}},
		// One side knows of it, and has it not.
		{{[]api.Fact{x}, one}, {nil, one}, {nil, one}},
		{{nil, one}, {[]api.Fact{x}, one}, {nil, one}},
		{{[]api.Fact{x}, one}, {[]api.Fact{y}, two}, {[]api.Fact{y}, two}},
		{{[]api.Fact{x, y}, two}, {nil, one}, {[]api.Fact{y}, two}},
		{{[]api.Fact{x, y}, two}, {nil, of(api.Vector{}, at(0, 2))}, {[]api.Fact{x}, two}},
		// Each side has some that the other one knows nothing of.
		{{[]api.Fact{x}, one}, {[]api.Fact{z}, of(api.Vector{0, 1})}, {[]api.Fact{x, z}, of(api.Vector{1, 1})}},
		{{[]api.Fact{z}, of(api.Vector{0, 1})}, {[]api.Fact{x, y}, two}, {[]api.Fact{x, y, z}, of(api.Vector{2, 1})}},
		{{[]api.Fact{z}, of(api.Vector{1, 1})}, {[]api.Fact{x, y}, two}, {[]api.Fact{y, z}, of(api.Vector{2, 1})}},
		// A context is told Clean.
		{{nil, of(api.Vector{}, at(0, 2))}, {nil, one}, {nil, two}},
		{{nil, of(api.Vector{0, 2}, at(0, 3), at(0, 3), at(1, 1))}, {nil, one}, {nil, of(api.Vector{1, 2}, at(0, 3))}},
	} {
		joins(t, c[0], c[1], c[2])
	}
}

// Facts are the same only if all of them is: what differs in its stamp alone was taken back at both sides.
func TestJoinTellsFactsApartByEachPart(t *testing.T) {
	c := of(api.Vector{1, 2})
	for i, f := range some() {
		for j, g := range some() {
			if f.Dot.N == 0 || g.Dot.N == 0 {
				continue
			}
			var want []api.Fact
			if i == j {
				want = []api.Fact{f}
			}
			joins(t, store{[]api.Fact{f}, of(api.Vector{2, 1})}, store{[]api.Fact{g}, of(api.Vector{2, 1})}, store{want, of(api.Vector{2, 1})})
		}
	}
	x := tag(at(1, 2), "x")
	for _, change := range []func(f *api.Fact){
		func(f *api.Fact) { f.Stamp.Time++ },
		func(f *api.Fact) { f.Stamp.Count++ },
		func(f *api.Fact) { f.Stamp.Replica++ },
		func(f *api.Fact) { f.Kind++ },
		func(f *api.Fact) { f.Name = "b" },
		func(f *api.Fact) { f.Value = "y" },
		func(f *api.Fact) { f.Dot.N-- },
	} {
		y := x
		change(&y)
		joins(t, store{[]api.Fact{x}, c}, store{[]api.Fact{y}, c}, store{nil, c})
		joins(t, store{[]api.Fact{x, y}, c}, store{[]api.Fact{y}, c}, store{[]api.Fact{y}, c})
	}
}

// No context has a dot that is no name, so nothing takes such facts back.
func TestJoinOfDotsThatAreNoNames(t *testing.T) {
	for _, d := range notNames() {
		f := tag(d, "x")
		full := of(api.Vector{}, d)
		for i := range full.V {
			full.V[i] = math.MaxInt
		}
		all := causal.Clean(full)
		joins(t, store{[]api.Fact{f}, full}, store{nil, full}, store{[]api.Fact{f}, all})
		joins(t, store{nil, full}, store{[]api.Fact{f}, full}, store{[]api.Fact{f}, all})
		joins(t, store{[]api.Fact{f, f}, full}, store{[]api.Fact{f}, full}, store{[]api.Fact{f}, all})
	}
}

// What is handed in may be in any order, and twice.
func TestJoinSorts(t *testing.T) {
	next := chance()
	for _, a := range stores(97) {
		for _, b := range stores(89) {
			want := plainJoin(a, b)
			joins(t, store{shuffled(slices.Concat(a.l, a.l), next), a.c}, store{shuffled(slices.Concat(b.l, b.l), next), b.c}, want)
		}
	}
}

func TestJoinOfManyStores(t *testing.T) {
	left := map[int]int{}
	for _, a := range stores(17) {
		for _, b := range stores(19) {
			want := plainJoin(a, b)
			left[len(want.l)]++
			joins(t, a, b, want)
		}
	}
	for n := range 9 {
		if left[n] == 0 {
			t.Errorf("no stores left %d facts", n)
		}
	}
}

// Joining many facts is not slow, though all of them are beyond the vectors.
func TestJoinOfLongLists(t *testing.T) {
	l, dots := odd(1 << 16)
	half, halfDots := l[:len(l)/2], dots[:len(l)/2]
	all, some := of(api.Vector{}, dots...), of(api.Vector{}, halfDots...)
	joins(t, store{l, all}, store{l, all}, store{l, all})
	joins(t, store{l, all}, store{half, all}, store{half, all})
	joins(t, store{l, all}, store{half, some}, store{l, all})
	joins(t, store{l, all}, store{nil, some}, store{l[len(l)/2:], all})
	joins(t, store{l, all}, store{l[1:2], some}, store{append(slices.Clone(l[1:2]), l[len(l)/2:]...), all})
	checks(t, store{l, all}, api.OK)
}

// A vector may count more updates than could be gone over.
func TestJoinOfGreatCounts(t *testing.T) {
	x, y := tag(at(0, api.MaxCount), "x"), tag(at(0, api.MaxCount-1), "x")
	near, far := of(api.Vector{api.MaxCount - 1}), of(api.Vector{api.MaxCount})
	joins(t, store{[]api.Fact{y}, near}, store{[]api.Fact{y, x}, far}, store{[]api.Fact{y, x}, far})
	joins(t, store{nil, near}, store{[]api.Fact{y, x}, far}, store{[]api.Fact{x}, far})
	joins(t, store{[]api.Fact{y}, near}, store{nil, far}, store{nil, far})
	joins(t, store{[]api.Fact{y}, near}, store{[]api.Fact{x}, of(api.Vector{}, at(0, api.MaxCount))}, store{[]api.Fact{y, x}, far})
}

// Room behind what is handed in is not written to, and what is handed out does not change with it.
func TestJoinAnswersListsOfItsOwn(t *testing.T) {
	x, y := tag(at(0, 2), "x"), tag(at(1, 2), "y")
	l, dots := []api.Fact{x, y, y, x}, []api.Dot{at(0, 2), at(1, 2), at(9, 9), at(8, 8)}
	keptL, keptDots := slices.Clone(l), slices.Clone(dots)
	gotL, gotC := kernel.Join(l[:1], of(api.Vector{}, dots[:1]...), l[1:2], of(api.Vector{}, dots[1:2]...))
	wantL, wantC := []api.Fact{x, y}, of(api.Vector{}, at(0, 2), at(1, 2))
	if !slices.Equal(l, keptL) || !slices.Equal(dots, keptDots) {
		t.Errorf("Join changed what was handed in: %v, %v", l, dots)
	}
	clear(l)
	clear(dots)
	if got := (store{gotL, gotC}); !same(got, store{wantL, wantC}) {
		t.Errorf("what Join answered hangs on what was handed in: %v", got)
	}
}

// Promise 16.1: Apply.

// plainSide is the store that an update is, as promise 16.1 says.
func plainSide(d api.Delta) store {
	return store{d.Facts, causal.Add(api.Context{}, append([]api.Dot{d.Dot}, d.Gone...))}
}

// applies fails unless Apply answers want, and leaves what is handed in.
func applies(t *testing.T, s store, d api.Delta, want store) {
	t.Helper()
	oldS, oldFacts, oldGone := copied(s), slices.Clone(d.Facts), slices.Clone(d.Gone)
	if got := apply(s, d); !same(got, want) {
		t.Errorf("Apply(%s, %s) = %s; want %s", shown(s), shown(d), shown(got), shown(want))
	}
	if !same(s, oldS) || !slices.Equal(d.Facts, oldFacts) || !slices.Equal(d.Gone, oldGone) {
		t.Errorf("Apply changed what was handed in: %s, %s", shown(s), shown(d))
	}
}

// update is a delta with such facts.
func update(d api.Dot, gone []api.Dot, facts ...api.Fact) api.Delta {
	return api.Delta{Dot: d, Stamp: api.Stamp{Time: 5, Count: 1, Replica: d.Replica}, Facts: facts, Gone: gone}
}

func TestApply(t *testing.T) {
	x, y := tag(at(0, 1), "x"), tag(at(1, 1), "y")
	first, second := of(api.Vector{1}), of(api.Vector{1, 1})
	for _, c := range []struct {
		s    store
		d    api.Delta
		want store
	}{
		{store{}, update(at(0, 1), nil, x), store{[]api.Fact{x}, first}},
		{store{}, update(at(0, 2), nil, tag(at(0, 2), "x")), store{[]api.Fact{tag(at(0, 2), "x")}, of(api.Vector{}, at(0, 2))}},
		{store{}, update(at(0, 1), nil), store{nil, first}},
		{store{}, api.Delta{}, store{}},
		{store{[]api.Fact{x}, first}, api.Delta{}, store{[]api.Fact{x}, first}},
		// It is there, and comes again.
		{store{[]api.Fact{x}, first}, update(at(0, 1), nil, x), store{[]api.Fact{x}, first}},
		// It was taken back, and comes again.
		{store{nil, first}, update(at(0, 1), nil, x), store{nil, first}},
		{store{[]api.Fact{x}, first}, update(at(1, 1), nil, y), store{[]api.Fact{x, y}, second}},
		{store{[]api.Fact{x}, first}, update(at(1, 1), []api.Dot{at(0, 1)}, y), store{[]api.Fact{y}, second}},
		{store{[]api.Fact{x}, first}, update(at(1, 1), []api.Dot{at(0, 1)}), store{nil, second}},
		// What it takes back need not be there yet.
		{store{[]api.Fact{x}, first}, update(at(1, 1), []api.Dot{at(0, 3), at(7, 2)}, y), store{[]api.Fact{x, y}, of(api.Vector{1, 1}, at(0, 3), at(7, 2))}},
		// What no update may bear is taken as it stands: Gones in any order, its own dot among them, and no names.
		{store{[]api.Fact{x}, first}, update(at(1, 1), []api.Dot{at(1, 1), at(0, 2), at(0, 1), at(0, 0)}, y, y), store{[]api.Fact{y}, of(api.Vector{2, 1})}},
		{store{}, update(at(1, 1), nil, x), store{[]api.Fact{x}, of(api.Vector{0, 1})}},
		{store{nil, first}, update(at(1, 1), nil, x), store{nil, second}},
		{store{}, update(at(16, 0), []api.Dot{at(-1, 5)}, y), store{[]api.Fact{y}, api.Context{}}},
		// A store whose context is not Clean.
		{store{[]api.Fact{y, x, y}, of(api.Vector{-3}, at(1, 1), at(0, 1), at(0, 1))}, update(at(0, 2), []api.Dot{at(1, 1)}), store{[]api.Fact{x}, of(api.Vector{2, 1})}},
	} {
		applies(t, c.s, c.d, c.want)
	}
}

func TestApplyIsAJoin(t *testing.T) {
	for i, s := range stores(13) {
		for j, other := range stores(61) {
			d := api.Delta{Dot: at(i%3-1, j%3), Facts: other.l, Gone: other.c.Cloud}
			applies(t, s, d, plainJoin(s, plainSide(d)))
		}
	}
}

// Room behind an update's lists is not written to.
func TestApplyLeavesWhatIsHandedIn(t *testing.T) {
	gone := []api.Dot{at(0, 2), at(5, 5), at(6, 6)}
	facts := []api.Fact{tag(at(1, 2), "y"), tag(at(9, 9), "x")}
	keptGone, keptFacts := slices.Clone(gone), slices.Clone(facts)
	l, c := kernel.Apply(nil, api.Context{}, update(at(1, 2), gone[:1], facts[:1]...))
	if !slices.Equal(gone, keptGone) || !slices.Equal(facts, keptFacts) {
		t.Errorf("Apply changed what was handed in: %v, %v", gone, facts)
	}
	clear(gone)
	clear(facts)
	if got, want := (store{l, c}), (store{[]api.Fact{tag(at(1, 2), "y")}, of(api.Vector{}, at(0, 2), at(1, 2))}); !same(got, want) {
		t.Errorf("what Apply answered hangs on what was handed in: %v", got)
	}
}

// A fact whose dot is Gone in another delta is not there, whichever comes first.
func TestApplyOfWhatIsGoneElsewhere(t *testing.T) {
	x := update(at(0, 1), nil, tag(at(0, 1), "x"))
	y := update(at(1, 1), []api.Dot{at(0, 1)})
	want := store{nil, of(api.Vector{1, 1})}
	applies(t, apply(store{}, x), y, want)
	applies(t, store{nil, of(api.Vector{1, 1})}, x, want)
	applies(t, apply(store{}, y), x, want)
}

// Promise 16.2: Join does not hang on the order, nor on how often.

func TestJoinInEachOrder(t *testing.T) {
	for _, a := range stores(23) {
		for _, b := range stores(29) {
			ab := join(a, b)
			if ba := join(b, a); !same(ab, ba) {
				t.Fatalf("Join(%v, %v) = %v; the other way %v", a, b, ab, ba)
			}
			for _, again := range []store{join(ab, a), join(ab, b), join(b, ab), join(ab, ab)} {
				if !same(again, ab) {
					t.Fatalf("Join(%v, %v) = %v; once more %v", a, b, ab, again)
				}
			}
		}
	}
}

// joinsEitherWay fails unless three stores leave the same, whichever two are joined first.
func joinsEitherWay(t *testing.T, a, b, c store) {
	t.Helper()
	if left, right := join(join(a, b), c), join(a, join(b, c)); !same(left, right) {
		t.Fatalf("Join of %v, %v, %v = %v and %v", a, b, c, left, right)
	}
}

func TestJoinHoweverItIsPutTogether(t *testing.T) {
	// All that there are of two facts and their two dots, and some greater ones.
	var all []store
	for bits := range 1 << 4 {
		l := chosen([]api.Fact{tag(at(0, 2), "x"), tag(at(1, 1), "x")}, bits&3)
		all = append(all, store{l, of(api.Vector{1: bits >> 2 & 1}, []api.Dot{at(0, 2)}[:bits>>3]...)})
	}
	for _, few := range [][]store{all, stores(149)} {
		for _, a := range few {
			for _, b := range few {
				for _, c := range few {
					joinsEitherWay(t, a, b, c)
				}
			}
		}
	}
}

// What is joined of stores is a store.
func TestJoinAnswersStores(t *testing.T) {
	var good []store
	for _, s := range stores(1) {
		if kernel.Check(s.l, s.c) == api.OK {
			good = append(good, s)
		}
	}
	for _, a := range good {
		for _, b := range good {
			checks(t, join(a, b), api.OK)
		}
	}
}

// Promise 16.2: whatever deltas are applied, in whatever order, what is left is the same.

// plainLeft is what is left of deltas, in whatever order: the facts that each side has that knows their updates.
func plainLeft(deltas []api.Delta) store {
	var facts, left []api.Fact
	var c api.Context
	for _, d := range deltas {
		facts = append(facts, d.Facts...)
		c = causal.Join(c, plainSide(d).c)
	}
	for _, f := range facts {
		if !slices.ContainsFunc(deltas, func(d api.Delta) bool {
			return causal.Has(plainSide(d).c, f.Dot) && !slices.Contains(d.Facts, f)
		}) {
			left = append(left, f)
		}
	}
	return store{fact.Sort(left), c}
}

// leaves fails unless these deltas, applied in this order, leave want.
func leaves(t *testing.T, deltas []api.Delta, want store) {
	t.Helper()
	var s store
	for _, d := range deltas {
		s = apply(s, d)
	}
	if !same(s, want) {
		t.Fatalf("%s leave %s; want %s", shown(deltas), shown(s), shown(want))
	}
}

// orders calls f with deltas in each order.
func orders(deltas []api.Delta, f func([]api.Delta)) {
	if len(deltas) == 0 {
		f(nil)
		return
	}
	for i := range deltas {
		orders(slices.Delete(slices.Clone(deltas), i, i+1), func(rest []api.Delta) { f(append(rest, deltas[i])) })
	}
}

func TestApplyInEachOrder(t *testing.T) {
	deltas := []api.Delta{
		update(at(0, 1), nil, tag(at(0, 1), "x"), tag(at(0, 1), "y")),
		update(at(0, 2), []api.Dot{at(0, 1)}, tag(at(0, 2), "x")),
		update(at(1, 1), []api.Dot{at(0, 1)}, tag(at(1, 1), "x")),
		update(at(1, 2), []api.Dot{at(0, 2), at(2, 1)}),
		update(at(2, 1), nil, tag(at(2, 1), "z")),
		update(at(3, 7), nil, tag(at(3, 7), "z")),
	}
	want := store{[]api.Fact{tag(at(1, 1), "x"), tag(at(3, 7), "z")}, of(api.Vector{2, 2, 1}, at(3, 7))}
	if got := plainLeft(deltas); !same(got, want) {
		t.Fatalf("the words leave %v; want %v", got, want)
	}
	orders(deltas, func(l []api.Delta) { leaves(t, l, want) })
	orders(deltas[:4], func(l []api.Delta) { leaves(t, slices.Concat(l, deltas, l), want) })
}

// wild is a delta of any kind: of few dots, with facts of its own dot, or of others.
func wild(next func(int) int) api.Delta {
	d := update(at(next(3), next(4)), nil)
	for range next(4) {
		of := d.Dot
		if next(5) == 0 {
			of = at(next(3), next(4))
		}
		d.Facts = append(d.Facts, tag(of, string(rune('x'+next(3)))))
		if next(8) == 0 {
			d.Facts = append(d.Facts, later(d.Facts[0]))
		}
	}
	for range next(3) {
		d.Gone = append(d.Gone, at(next(3), next(5)))
	}
	return d
}

// Two updates of one name say what both say: that holds in each order too.
func TestApplyOfAnyDeltasInManyOrders(t *testing.T) {
	next := chance()
	for range 1500 {
		var deltas []api.Delta
		for range 1 + next(9) {
			deltas = append(deltas, wild(next))
		}
		want := plainLeft(deltas)
		leaves(t, deltas, want)
		for range 6 {
			leaves(t, shuffled(deltas, next), want)
			leaves(t, shuffled(slices.Concat(deltas, deltas, deltas[:1]), next), want)
		}
	}
}

// Deltas may be applied apart, and what is left of them joined.
func TestApplyApartAndJoin(t *testing.T) {
	next := chance()
	for range 1500 {
		var deltas []api.Delta
		for range next(10) {
			deltas = append(deltas, wild(next))
		}
		want := plainLeft(deltas)
		var sides [3]store
		for _, d := range deltas {
			// Some come to more than one of them.
			for range 1 + next(2) {
				i := next(3)
				sides[i] = apply(sides[i], d)
			}
		}
		if got := join(join(sides[2], sides[0]), sides[1]); !same(got, want) {
			t.Fatalf("%s leave %s, applied apart; want %s", shown(deltas), shown(got), shown(want))
		}
	}
}

func FuzzOneEnd(f *testing.F) {
	f.Add("")
	f.Add("\x01\x02\x03\x04\x05\x06")
	f.Add("one update, and another one that takes it back")
	f.Fuzz(func(t *testing.T, s string) {
		if len(s) > 400 {
			return
		}
		next := plainly.Choices(&s)
		var deltas []api.Delta
		for s != "" {
			deltas = append(deltas, wild(next))
		}
		want := plainLeft(deltas)
		leaves(t, deltas, want)
		leaves(t, slices.Concat(deltas, deltas), want)
		slices.Reverse(deltas)
		leaves(t, deltas, want)
		var halves [2]store
		for i, d := range deltas {
			halves[i%2] = apply(halves[i%2], d)
		}
		if got := join(halves[0], halves[1]); !same(got, want) {
			t.Errorf("%s leave %s in halves; want %s", shown(deltas), shown(got), shown(want))
		}
	})
}
