package causal_test

import (
	"math"
	"slices"
	"testing"

	"almonry/api"
	"almonry/causal"
	"almonry/vector"
)

// at is the name of a replica's update.
func at(replica, n int) api.Dot { return api.Dot{Replica: replica, N: n} }

// of is the context of a vector, and of dots beyond it.
func of(v api.Vector, cloud ...api.Dot) api.Context { return api.Context{V: v, Cloud: cloud} }

// all is n at each place.
func all(n int) api.Vector {
	var v api.Vector
	for i := range v {
		v[i] = n
	}
	return v
}

// with is v, but with n at a place.
func with(v api.Vector, place, n int) api.Vector {
	v[place] = n
	return v
}

// odd are n names of which none stands behind another one, rising.
func odd(n int) []api.Dot {
	var l []api.Dot
	for i := range n {
		l = append(l, at(i*api.Replicas/n, 2*i+2))
	}
	return l
}

// row are the names of a replica's updates from one to another one.
func row(replica, from, to int) []api.Dot {
	var l []api.Dot
	for n := from; n <= to; n++ {
		l = append(l, at(replica, n))
	}
	return l
}

// each is an update of this number of each replica.
func each(n int) []api.Dot {
	var l []api.Dot
	for replica := range api.Replicas {
		l = append(l, at(replica, n))
	}
	return l
}

// same tells whether two contexts have the same fields.
func same(a, b api.Context) bool { return a.V == b.V && slices.Equal(a.Cloud, b.Cloud) }

// edges are numbers at which something may go over, rising.
func edges() []int {
	return []int{
		math.MinInt, math.MinInt + 1, -api.MaxCount, -1, 0, 1, 2, 15, 16, 127, 128,
		api.MaxCount - 1, api.MaxCount, api.MaxCount + 1, api.MaxNum, math.MaxInt - 1, math.MaxInt,
	}
}

// wrongDots are some that are no names.
func wrongDots() []api.Dot {
	return []api.Dot{
		at(0, 0), at(15, 0), at(-1, 1), at(16, 1), at(17, 5), at(-1, -1), at(3, -1), at(0, api.MaxCount+1), at(15, api.MaxCount+1),
		at(0, math.MaxInt), at(0, math.MinInt), at(math.MaxInt, 1), at(math.MinInt, 1), at(math.MinInt, math.MinInt),
	}
}

// The plain model: dots of small numbers, each of which is there or not.

// reach is the greatest number that the model knows.
const reach = 9

type set map[api.Dot]bool

// plainSet is what promise 13.1 says that a context has, dot by dot.
func plainSet(c api.Context) set {
	s := set{}
	for replica := range api.Replicas {
		for n := 1; n <= reach; n++ {
			if d := at(replica, n); n <= c.V[replica] || slices.Contains(c.Cloud, d) {
				s[d] = true
			}
		}
	}
	return s
}

// context is the Clean context of a set.
func (s set) context() api.Context {
	var c api.Context
	for replica := range api.Replicas {
		for s[at(replica, c.V[replica]+1)] {
			c.V[replica]++
		}
		for n := c.V[replica] + 1; n <= reach; n++ {
			if s[at(replica, n)] {
				c.Cloud = append(c.Cloud, at(replica, n))
			}
		}
	}
	return c
}

// without are the dots of s that o has not, rising.
func (s set) without(o set) []api.Dot {
	var l []api.Dot
	for replica := range api.Replicas {
		for n := 1; n <= reach; n++ {
			if d := at(replica, n); s[d] && !o[d] {
				l = append(l, d)
			}
		}
	}
	return l
}

// and is the set of what either has.
func (s set) and(o set) set {
	both := set{}
	for d := range s {
		both[d] = true
	}
	for d := range o {
		both[d] = true
	}
	return both
}

// small are contexts of few dots at the first and the last replica, clean or not.
func small() []api.Context {
	dots := []api.Dot{at(15, 2), at(0, 3), at(15, 1), at(0, 1), at(0, 2), at(15, 4)}
	var l []api.Context
	for subset := range 1 << len(dots) {
		var cloud []api.Dot
		for i, d := range dots {
			if subset>>i&1 == 1 {
				cloud = append(cloud, d)
			}
		}
		for _, v := range []api.Vector{{}, {1}, {2, 15: 1}, {15: 3}, {-1, 15: -3}} {
			l = append(l, of(v, cloud...))
		}
	}
	return l
}

// chance answers numbers that look like chance, and are the same ones each time.
func chance() func(int) int {
	state := uint32(1)
	return func(n int) int {
		state = state*1664525 + 1013904223
		return int(state>>8) % n
	}
}

// some is a context of some dots, among them such that are no names, with doubles and in no order.
func some(next func(int) int) api.Context {
	var c api.Context
	for i := range c.V {
		c.V[i] = max(next(7)-4, -1)
	}
	wrong := wrongDots()
	for range next(40) {
		c.Cloud = append(c.Cloud, at(next(api.Replicas), 1+next(reach)))
		if next(8) == 0 {
			c.Cloud = append(c.Cloud, wrong[next(len(wrong))])
		}
	}
	return c
}

// Promise 13.1: Has.

func TestHas(t *testing.T) {
	c := of(api.Vector{2, 0, 5}, at(0, 4), at(1, 3), at(15, api.MaxCount))
	for _, d := range []api.Dot{at(0, 1), at(0, 2), at(0, 4), at(1, 3), at(2, 1), at(2, 5), at(15, api.MaxCount)} {
		if !causal.Has(c, d) {
			t.Errorf("Has of %v = false", d)
		}
	}
	for _, d := range []api.Dot{at(0, 3), at(0, 5), at(1, 1), at(1, 2), at(1, 4), at(2, 6), at(3, 1), at(15, 1), at(15, api.MaxCount-1)} {
		if causal.Has(c, d) {
			t.Errorf("Has of %v = true", d)
		}
	}
}

func TestHasOfNothing(t *testing.T) {
	for _, r := range edges() {
		for _, n := range edges() {
			if causal.Has(api.Context{}, at(r, n)) || causal.Has(of(all(-1)), at(r, n)) {
				t.Errorf("nothing has %d %d", r, n)
			}
		}
	}
}

// What is no name is not there, though the Cloud lists it, and though a vector's number is above it.
func TestHasAsksTheName(t *testing.T) {
	for _, d := range wrongDots() {
		for _, c := range []api.Context{of(all(0), d), of(all(math.MaxInt), d), of(all(5), at(3, 9), d, at(0, 1)), of(all(api.MaxCount), wrongDots()...)} {
			if causal.Has(c, d) {
				t.Errorf("Has of %v = true", d)
			}
		}
	}
}

// The vector's numbers are taken as they are: below 0 they tell nothing, above MaxCount no more than that.
func TestHasOfAnyVector(t *testing.T) {
	for _, count := range edges() {
		c := of(with(all(7), 3, count), at(2, 9))
		for _, n := range edges() {
			want := n >= 1 && n <= api.MaxCount && n <= count
			if got := causal.Has(c, at(3, n)); got != want {
				t.Errorf("Has of 3 %d where %d are there = %t", n, count, got)
			}
		}
	}
}

func TestHasOfManyContexts(t *testing.T) {
	next := chance()
	for range 300 {
		c := some(next)
		s := plainSet(c)
		for replica := range api.Replicas {
			for n := range reach + 2 {
				if d := at(replica, n); causal.Has(c, d) != s[d] {
					t.Fatalf("Has(%v, %v) = %t", c, d, !s[d])
				}
			}
		}
	}
}

// Promise 13.1: Clean.

// cleans fails unless Clean answers want, and want is Clean.
func cleans(t *testing.T, c, want api.Context) {
	t.Helper()
	if got := causal.Clean(c); !same(got, want) {
		t.Errorf("Clean(%.200v) = %.200v; want %.200v", c, got, want)
	}
	if got := causal.Clean(want); !same(got, want) {
		t.Errorf("Clean(%.200v) = %.200v; want the same", want, got)
	}
	if err := causal.Check(want); err != api.OK {
		t.Errorf("Check(%.200v) = error %d", want, err)
	}
}

func TestClean(t *testing.T) {
	cleans(t, of(api.Vector{}), of(api.Vector{}))
	cleans(t, of(api.Vector{}, []api.Dot{}...), of(api.Vector{}))
	cleans(t, of(api.Vector{2}), of(api.Vector{2}))
	cleans(t, of(api.Vector{}, at(0, 1)), of(api.Vector{1}))
	cleans(t, of(api.Vector{}, at(0, 2), at(0, 1)), of(api.Vector{2}))
	cleans(t, of(api.Vector{}, at(0, 2)), of(api.Vector{}, at(0, 2)))
	cleans(t, of(api.Vector{1}, at(0, 1)), of(api.Vector{1}))
	cleans(t, of(api.Vector{1}, at(0, 2)), of(api.Vector{2}))
	cleans(t, of(api.Vector{1}, at(0, 3)), of(api.Vector{1}, at(0, 3)))
	cleans(t, of(api.Vector{1}, at(0, 5), at(0, 3), at(0, 2), at(0, 5)), of(api.Vector{3}, at(0, 5)))
	cleans(t, of(api.Vector{}, at(1, 3), at(0, 3), at(1, 3)), of(api.Vector{}, at(0, 3), at(1, 3)))
	cleans(t, of(api.Vector{0, 4}, at(15, 2), at(15, 1), at(1, 2), at(1, 5), at(1, 7), at(0, 2)),
		of(api.Vector{0, 5, 15: 2}, at(0, 2), at(1, 7)))
	cleans(t, of(api.Vector{}, at(10, 3), at(9, 3), at(10, 12), at(10, 11)), of(api.Vector{}, at(9, 3), at(10, 3), at(10, 11), at(10, 12)))
}

func TestCleanOfAnyVector(t *testing.T) {
	for place := range api.Replicas {
		for _, n := range edges() {
			count := min(max(n, 0), api.MaxCount)
			cleans(t, of(with(all(3), place, n)), of(with(all(3), place, count)))
		}
		// From a number below 0 on, the first one goes on.
		cleans(t, of(with(all(3), place, -1), at(place, 1)), of(with(all(3), place, 1)))
		cleans(t, of(with(all(3), place, math.MinInt), at(place, 2), at(place, 1), at(place, 4)), of(with(all(3), place, 2), at(place, 4)))
		cleans(t, of(with(all(3), place, -1), at(place, 2)), of(with(all(3), place, 0), at(place, 2)))
	}
}

func TestCleanAtTheGreatestNumbers(t *testing.T) {
	for place := range api.Replicas {
		top := func(n int) api.Vector { return with(all(3), place, n) }
		cleans(t, of(top(api.MaxCount-1), at(place, api.MaxCount)), of(top(api.MaxCount)))
		cleans(t, of(top(api.MaxCount-1), at(place, api.MaxCount+1), at(place, api.MaxCount)), of(top(api.MaxCount)))
		cleans(t, of(top(api.MaxCount), at(place, api.MaxCount), at(place, api.MaxCount+1)), of(top(api.MaxCount)))
		cleans(t, of(top(api.MaxCount-2), at(place, api.MaxCount)), of(top(api.MaxCount-2), at(place, api.MaxCount)))
		cleans(t, of(top(math.MaxInt), at(place, math.MaxInt), at(place, math.MinInt), at(place, 1)), of(top(api.MaxCount)))
		cleans(t, of(top(0), at(place, api.MaxCount)), of(top(0), at(place, api.MaxCount)))
	}
}

func TestCleanLeavesOutWhatIsNoName(t *testing.T) {
	for _, d := range wrongDots() {
		cleans(t, of(api.Vector{}, d), of(api.Vector{}))
		cleans(t, of(all(4), d, at(3, 9), d), of(all(4), at(3, 9)))
	}
	cleans(t, of(all(4), wrongDots()...), of(all(4)))
}

func TestCleanOfManyContexts(t *testing.T) {
	for _, c := range small() {
		cleans(t, c, plainSet(c).context())
	}
	next := chance()
	for range 500 {
		c := some(next)
		cleans(t, c, plainSet(c).context())
	}
}

// A Cloud may be longer than one that is put.
func TestCleanOfALongCloud(t *testing.T) {
	l := odd(5 * api.MaxList)
	turned := slices.Concat(l, l)
	slices.Reverse(turned)
	cleans(t, of(api.Vector{}, turned...), of(api.Vector{}, l...))
	filled := slices.Concat(row(7, 2, 50_000), row(7, 50_002, 60_000), row(7, 1, 1))
	cleans(t, of(api.Vector{}, filled...), of(api.Vector{7: 50_000}, row(7, 50_002, 60_000)...))
}

// Promise 13.1: Check.

func TestCheckTakesWhatIsClean(t *testing.T) {
	for _, c := range []api.Context{
		{}, {Cloud: []api.Dot{}}, of(all(api.MaxCount)), of(all(0), at(0, 2)), of(all(5), at(3, 7), at(3, 8), at(4, 7)),
		of(all(api.MaxCount-2), at(15, api.MaxCount)), of(all(0), at(15, api.MaxCount)), of(all(0), odd(2*api.MaxList)...),
	} {
		if err := causal.Check(c); err != api.OK {
			t.Errorf("Check(%.100v) = error %d", c, err)
		}
	}
}

// unclean are contexts that have a vector that Checks, and yet are not Clean.
func unclean() []api.Context {
	l := []api.Context{
		of(api.Vector{}, at(0, 1)), of(api.Vector{}, at(15, 1)), of(api.Vector{2}, at(0, 1)), of(api.Vector{2}, at(0, 2)), of(api.Vector{2}, at(0, 3)),
		of(api.Vector{2}, at(0, 5), at(0, 5)), of(api.Vector{2}, at(0, 6), at(0, 5)), of(api.Vector{2}, at(1, 5), at(0, 5)),
		of(api.Vector{2}, at(0, 4), at(0, 5), at(1, 1)), of(all(api.MaxCount), at(0, api.MaxCount)), of(all(api.MaxCount-1), at(9, api.MaxCount)),
	}
	for _, d := range wrongDots() {
		l = append(l, of(all(0), d), of(all(api.MaxCount), d), of(all(2), at(1, 4), d), of(all(2), d, at(1, 4)))
	}
	return l
}

func TestCheckAndPutRefuseWhatIsNotClean(t *testing.T) {
	for _, c := range unclean() {
		if err := causal.Check(c); err != api.ErrForm {
			t.Errorf("Check(%v) = error %d; want ErrForm", c, err)
		}
		notPut(t, c, api.ErrForm)
	}
}

// The vector's error comes ahead of ErrForm.
func TestCheckAndPutAskTheVectorFirst(t *testing.T) {
	for place := range api.Replicas {
		for _, n := range edges() {
			if n >= 0 && n <= api.MaxCount {
				continue
			}
			for _, c := range append(unclean(), of(all(3)), of(all(3), odd(api.MaxList+1)...)) {
				c.V[place] = n
				if err := causal.Check(c); err != api.ErrRange {
					t.Errorf("Check(%.100v) = error %d; want ErrRange", c, err)
				}
				notPut(t, c, api.ErrRange)
			}
		}
	}
}

func TestCheckOfManyContexts(t *testing.T) {
	for _, c := range small() {
		want := api.OK
		switch {
		case slices.Min(c.V[:]) < 0:
			want = api.ErrRange
		case !same(c, plainSet(c).context()):
			want = api.ErrForm
		}
		if err := causal.Check(c); err != want {
			t.Errorf("Check(%v) = error %d; want %d", c, err, want)
		}
	}
}

// Promise 13.1: Add.

func TestAdd(t *testing.T) {
	for _, c := range []struct {
		c    api.Context
		l    []api.Dot
		want api.Context
	}{
		{of(api.Vector{}), nil, of(api.Vector{})},
		{of(api.Vector{}), []api.Dot{at(0, 2), at(0, 1)}, of(api.Vector{2})},
		{of(api.Vector{}), []api.Dot{at(0, 2)}, of(api.Vector{}, at(0, 2))},
		{of(api.Vector{}, at(0, 2)), []api.Dot{at(0, 1)}, of(api.Vector{2})},
		{of(api.Vector{}, at(0, 2)), []api.Dot{at(0, 2), at(0, 2)}, of(api.Vector{}, at(0, 2))},
		{of(api.Vector{4}), []api.Dot{at(0, 3), at(0, 6), at(1, 1)}, of(api.Vector{4, 1}, at(0, 6))},
		{of(api.Vector{4}), wrongDots(), of(api.Vector{4})},
		{of(api.Vector{4}), append(wrongDots(), at(0, 5)), of(api.Vector{5})},
		// What is handed in need not be Clean: nothing may be added to it either.
		{of(api.Vector{-2, math.MaxInt}, at(2, 3), at(0, 1), at(1, 1), at(16, 1)), nil, of(api.Vector{1, api.MaxCount}, at(2, 3))},
		{of(api.Vector{-2}, at(0, 2)), []api.Dot{at(0, 1), at(0, 0)}, of(api.Vector{2})},
		{of(api.Vector{api.MaxCount - 1}), []api.Dot{at(0, api.MaxCount+1), at(0, api.MaxCount)}, of(api.Vector{api.MaxCount})},
	} {
		if got := causal.Add(c.c, c.l); !same(got, c.want) {
			t.Errorf("Add(%v, %v) = %v; want %v", c.c, c.l, got, c.want)
		}
	}
}

func TestAddOfManyContexts(t *testing.T) {
	next := chance()
	for range 500 {
		c, o := some(next), some(next)
		want := plainSet(c).and(plainSet(of(api.Vector{}, o.Cloud...))).context()
		if got := causal.Add(c, o.Cloud); !same(got, want) {
			t.Fatalf("Add(%v, %v) = %v; want %v", c, o.Cloud, got, want)
		}
	}
}

// Promise 13.1 and 13.3: Join.

func TestJoin(t *testing.T) {
	for _, c := range []struct{ a, b, want api.Context }{
		{of(api.Vector{}), of(api.Vector{}), of(api.Vector{})},
		{of(api.Vector{2}), of(api.Vector{1, 3}), of(api.Vector{2, 3})},
		{of(api.Vector{}, at(0, 2)), of(api.Vector{1}), of(api.Vector{2})},
		{of(api.Vector{}, at(0, 2), at(0, 4)), of(api.Vector{}, at(0, 3)), of(api.Vector{}, at(0, 2), at(0, 3), at(0, 4))},
		{of(api.Vector{}, at(0, 2), at(0, 4)), of(api.Vector{1}, at(0, 3), at(0, 6)), of(api.Vector{4}, at(0, 6))},
		{of(api.Vector{5}), of(api.Vector{}, at(0, 3), at(0, 7)), of(api.Vector{5}, at(0, 7))},
		{of(all(-1), at(16, 1)), of(all(math.MinInt), at(3, 0)), of(api.Vector{})},
		{of(all(-1), at(3, 1)), of(all(math.MaxInt)), of(all(api.MaxCount))},
		{of(all(api.MaxCount - 2)), of(api.Vector{}, at(4, api.MaxCount), at(4, api.MaxCount-1)), of(with(all(api.MaxCount-2), 4, api.MaxCount))},
	} {
		for _, got := range []api.Context{causal.Join(c.a, c.b), causal.Join(c.b, c.a)} {
			if !same(got, c.want) {
				t.Errorf("Join of %v and %v = %v; want %v", c.a, c.b, got, c.want)
			}
		}
	}
}

// Join does not hang on the order, nor on how often, nor on how it is put together.
func TestJoinOfManyContexts(t *testing.T) {
	next := chance()
	for range 500 {
		a, b, c := some(next), some(next), some(next)
		want := plainSet(a).and(plainSet(b)).and(plainSet(c)).context()
		ab, bc := causal.Join(a, b), causal.Join(b, c)
		for i, got := range []api.Context{
			causal.Join(ab, c), causal.Join(a, bc), causal.Join(c, ab), causal.Join(bc, a),
			causal.Join(causal.Join(c, b), a), causal.Join(causal.Join(a, c), b),
			causal.Join(ab, bc), causal.Join(causal.Join(ab, ab), causal.Join(c, causal.Join(c, a))),
		} {
			if !same(got, want) {
				t.Fatalf("Join of %v, %v and %v in way %d = %v; want %v", a, b, c, i, got, want)
			}
		}
		if got := causal.Join(a, a); !same(got, causal.Clean(a)) {
			t.Fatalf("Join of %v with itself = %v", a, got)
		}
	}
}

// Promise 13.1: Missing, Compare.

// misses fails unless Missing answers want.
func misses(t *testing.T, a, b api.Context, want []api.Dot) {
	t.Helper()
	if got := causal.Missing(a, b); !slices.Equal(got, want) {
		t.Errorf("Missing(%.200v, %.200v) = %d, %.200v; want %d, %.200v", a, b, len(got), got, len(want), want)
	}
}

func TestMissing(t *testing.T) {
	misses(t, of(api.Vector{}), of(api.Vector{}), nil)
	misses(t, of(api.Vector{}), of(api.Vector{2}, at(1, 3)), []api.Dot{at(0, 1), at(0, 2), at(1, 3)})
	misses(t, of(api.Vector{2}, at(1, 3)), of(api.Vector{}), nil)
	misses(t, of(api.Vector{1}), of(api.Vector{3}), row(0, 2, 3))
	misses(t, of(api.Vector{3}), of(api.Vector{1}), nil)
	misses(t, of(api.Vector{}, at(0, 2), at(0, 4)), of(api.Vector{5}), []api.Dot{at(0, 1), at(0, 3), at(0, 5)})
	misses(t, of(api.Vector{5}), of(api.Vector{}, at(0, 4), at(0, 6)), []api.Dot{at(0, 6)})
	misses(t, of(api.Vector{}, at(2, 5)), of(api.Vector{}, at(2, 4), at(2, 5), at(2, 6)), []api.Dot{at(2, 4), at(2, 6)})
	// Of each replica, what is beyond the vector comes ahead of the next replica's.
	misses(t, of(api.Vector{}), of(api.Vector{1, 1, 15: 2}, at(0, 3), at(1, 4), at(14, 2)),
		[]api.Dot{at(0, 1), at(0, 3), at(1, 1), at(1, 4), at(14, 2), at(15, 1), at(15, 2)})
	// What is no name is missed by nobody; what is not Clean tells what it has.
	misses(t, of(api.Vector{}), of(all(0), wrongDots()...), nil)
	misses(t, of(all(-1), at(0, 2), at(0, 1)), of(all(math.MinInt), at(0, 4), at(16, 1), at(0, 2), at(0, 4), at(0, 3)), row(0, 3, 4))
}

func TestMissingTellsTheFirstOfMany(t *testing.T) {
	full := row(0, 1, api.MaxList)
	misses(t, of(api.Vector{}), of(api.Vector{api.MaxList - 1}), full[:api.MaxList-1])
	misses(t, of(api.Vector{}), of(api.Vector{api.MaxList}), full)
	misses(t, of(api.Vector{}), of(api.Vector{api.MaxList + 1}), full)
	misses(t, of(api.Vector{}), of(all(api.MaxCount)), full)
	misses(t, of(all(-1)), of(all(math.MaxInt)), full)
	misses(t, of(api.Vector{}), of(api.Vector{api.MaxList - 1, 5}, at(0, 9000)), append(row(0, 1, api.MaxList-1), at(0, 9000)))
	misses(t, of(api.Vector{}), of(api.Vector{api.MaxList - 1, 5}), append(row(0, 1, api.MaxList-1), at(1, 1)))
	l := odd(api.MaxList + 1)
	misses(t, of(api.Vector{}), of(api.Vector{}, l...), l[:api.MaxList])
	misses(t, of(api.Vector{}, l[0]), of(api.Vector{}, l...), l[1:])
	misses(t, of(api.Vector{}, l[:api.MaxList]...), of(api.Vector{}, l...), l[api.MaxList:])
	// As many as a list may have are told, however many lie between them that are not missing.
	var between, want []api.Dot
	for i := range 2 * api.MaxList {
		between = append(between, at(3, 2*i+2))
		want = append(want, at(3, 2*i+1))
	}
	misses(t, of(api.Vector{}, between...), of(api.Vector{3: api.MaxCount}), want[:api.MaxList])
}

// Vectors that both count far are not gone over.
func TestMissingAtTheGreatestNumbers(t *testing.T) {
	far := all(api.MaxCount)
	misses(t, of(far), of(far), nil)
	misses(t, of(all(math.MaxInt)), of(all(math.MaxInt), at(0, 1)), nil)
	misses(t, of(all(api.MaxCount-1)), of(with(far, 3, 0), at(3, api.MaxCount)), each(api.MaxCount))
	misses(t, of(with(far, 15, api.MaxCount-2), at(15, api.MaxCount)), of(far), []api.Dot{at(15, api.MaxCount-1)})
	misses(t, of(all(math.MaxInt-1)), of(all(math.MaxInt), at(3, math.MaxInt), at(3, api.MaxCount+1)), nil)
}

// compares fails unless Compare answers want, and its turn the other way round.
func compares(t *testing.T, a, b api.Context, want int) {
	t.Helper()
	if got := causal.Compare(a, b); got != want {
		t.Errorf("Compare(%.200v, %.200v) = %d; want %d", a, b, got, want)
	}
	turned := want
	if want == 1 || want == -1 {
		turned = -want
	}
	if got := causal.Compare(b, a); got != turned {
		t.Errorf("Compare(%.200v, %.200v) = %d; want %d", b, a, got, turned)
	}
}

func TestCompare(t *testing.T) {
	compares(t, of(api.Vector{}), of(api.Vector{}), 0)
	compares(t, of(api.Vector{}), of(api.Vector{1}), -1)
	compares(t, of(api.Vector{}), of(api.Vector{}, at(3, 4)), -1)
	compares(t, of(api.Vector{1}), of(api.Vector{0, 1}), 2)
	compares(t, of(api.Vector{3}), of(api.Vector{}, at(0, 2)), 1)
	compares(t, of(api.Vector{3}), of(api.Vector{}, at(0, 4)), 2)
	compares(t, of(api.Vector{3}, at(1, 2)), of(api.Vector{3}, at(1, 3)), 2)
	compares(t, of(api.Vector{3}, at(1, 2)), of(api.Vector{3}, at(1, 2), at(1, 4)), -1)
	compares(t, of(api.Vector{3}, at(1, 2)), of(api.Vector{4}), 2)
	// The dots tell, not how they are written down.
	compares(t, of(api.Vector{2}), of(api.Vector{}, at(0, 2), at(0, 1), at(0, 2)), 0)
	compares(t, of(api.Vector{}), of(all(-1), wrongDots()...), 0)
	compares(t, of(all(-5)), of(api.Vector{1: -3}, at(1, 1)), -1)
	compares(t, of(all(api.MaxCount)), of(all(math.MaxInt), at(0, 1)), 0)
	compares(t, of(api.Vector{}), of(all(api.MaxCount)), -1)
	compares(t, of(all(api.MaxCount-1)), of(all(api.MaxCount)), -1)
	compares(t, of(with(all(api.MaxCount), 3, 0)), of(with(all(api.MaxCount), 4, 0)), 2)
	compares(t, of(api.Vector{}, odd(2*api.MaxList)...), of(all(api.MaxCount)), -1)
	compares(t, of(api.Vector{}, odd(2*api.MaxList)...), of(api.Vector{}, odd(2 * api.MaxList)[1:]...), 1)
}

// The first and the last one of many tell as much as all others.
func TestCompareOfOneDotAmongMany(t *testing.T) {
	for replica := range api.Replicas {
		for _, n := range []int{1, 2, api.MaxList + 1, api.MaxList + 2, 20_000} {
			one := of(api.Vector{}, at(replica, n))
			many := of(with(all(20_000), replica, n-1))
			compares(t, one, many, 2)
			compares(t, many, causal.Join(one, many), -1)
			compares(t, one, causal.Join(one, many), -1)
		}
	}
}

func TestMissingAndCompareOfAllPairs(t *testing.T) {
	l := small()
	sets := make([]set, len(l))
	for i, c := range l {
		sets[i] = plainSet(c)
	}
	for i, a := range l {
		for j, b := range l[:i+1] {
			lost, more := sets[i].without(sets[j]), sets[j].without(sets[i])
			misses(t, a, b, more)
			misses(t, b, a, lost)
			want := 2
			switch {
			case len(lost) == 0 && len(more) == 0:
				want = 0
			case len(lost) == 0:
				want = -1
			case len(more) == 0:
				want = 1
			}
			compares(t, a, b, want)
		}
	}
}

// A Compare of contexts without a Cloud is layer 12's.
func TestCompareIsThatOfVectors(t *testing.T) {
	next := chance()
	for range 500 {
		var a, b api.Vector
		for i := range a {
			a[i] = next(3)
			b[i] = a[i] + max(next(12)-10, 0)
		}
		if next(2) == 0 {
			a, b = b, a
		}
		if next(3) == 0 {
			a[next(16)]++
		}
		if got, want := causal.Compare(of(a), of(b)), vector.Compare(a, b); got != want {
			t.Fatalf("Compare(%v, %v) = %d; want %d", a, b, got, want)
		}
	}
}

// What is handed in, and what is handed out.

// kept calls f with a context whose Cloud has room behind it, and fails if anything of it is changed.
func kept(t *testing.T, what string, f func(c api.Context) []api.Dot) {
	t.Helper()
	for _, l := range [][]api.Dot{{}, {at(0, 3)}, {at(2, 5), at(2, 7)}, {at(3, 3), at(2, 2), at(0, 1), at(2, 2), at(16, 1)}} {
		room := slices.Concat(l, []api.Dot{at(7, 7), at(8, 8), at(9, 9)})
		before := slices.Clone(room)
		got := f(of(api.Vector{0, 2}, room[:len(l)]...))
		if !slices.Equal(room, before) {
			t.Errorf("%s of %v changed what was handed in: %v", what, l, room)
		}
		want := slices.Clone(got)
		clear(room)
		if !slices.Equal(got, want) {
			t.Errorf("%s of %v hangs on what was handed in: %v; want %v", what, l, got, want)
		}
	}
}

func TestWhatIsHandedInIsLeft(t *testing.T) {
	o := of(api.Vector{1, 1}, at(5, 9))
	kept(t, "Clean", func(c api.Context) []api.Dot { return causal.Clean(c).Cloud })
	kept(t, "Add", func(c api.Context) []api.Dot { return causal.Add(c, []api.Dot{at(5, 5), at(4, 4)}).Cloud })
	kept(t, "Add of nothing", func(c api.Context) []api.Dot { return causal.Add(c, nil).Cloud })
	kept(t, "Add as a list", func(c api.Context) []api.Dot { return causal.Add(o, c.Cloud).Cloud })
	kept(t, "Add to nothing", func(c api.Context) []api.Dot { return causal.Add(api.Context{}, c.Cloud).Cloud })
	kept(t, "Join", func(c api.Context) []api.Dot { return causal.Join(c, o).Cloud })
	kept(t, "Join behind", func(c api.Context) []api.Dot { return causal.Join(o, c).Cloud })
	kept(t, "Missing", func(c api.Context) []api.Dot { return causal.Missing(c, o) })
	kept(t, "Missing behind", func(c api.Context) []api.Dot { return causal.Missing(o, c) })
	kept(t, "Compare", func(c api.Context) []api.Dot { causal.Compare(c, o); return nil })
	kept(t, "Compare behind", func(c api.Context) []api.Dot { causal.Compare(o, c); return nil })
	kept(t, "Has", func(c api.Context) []api.Dot { causal.Has(c, at(5, 5)); return nil })
	kept(t, "Check", func(c api.Context) []api.Dot { causal.Check(c); return nil })
	kept(t, "Put", func(c api.Context) []api.Dot { causal.Put(c); return nil })
}
