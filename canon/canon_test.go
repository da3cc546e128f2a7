package canon_test

import (
	"fmt"
	"math"
	"slices"
	"strconv"
	"strings"
	"testing"

	"almonry/api"
	"almonry/canon"
	"almonry/fact"
	"almonry/kernel"
	"almonry/plainly"
)

// at is the name of a replica's update.
func at(replica, n int) api.Dot { return api.Dot{Replica: replica, N: n} }

// of is the context of a vector, and of dots beyond it.
func of(v api.Vector, cloud ...api.Dot) api.Context { return api.Context{V: v, Cloud: cloud} }

// said is what an update says of backup a.
func said(d api.Dot, kind int, value string) api.Fact {
	return api.Fact{Dot: d, Stamp: api.Stamp{Time: 5, Count: 1, Replica: d.Replica}, Kind: kind, Name: "a", Value: value}
}

// tag is a tag of backup a.
func tag(d api.Dot, value string) api.Fact { return said(d, api.FactTag, value) }

// named is f, but of another backup.
func named(f api.Fact, name string) api.Fact {
	f.Name = name
	return f
}

// later is f, made at another time.
func later(f api.Fact) api.Fact {
	f.Stamp.Time++
	return f
}

// store is a catalog: facts, and a context that may have their dots.
type store struct {
	l []api.Fact
	c api.Context
}

// same tells whether two stores have the same fields; a list that is empty may be nil.
func same(a, b store) bool {
	return slices.Equal(a.l, b.l) && a.c.V == b.c.V && slices.Equal(a.c.Cloud, b.c.Cloud)
}

// copied is a store that shares no memory with s.
func copied(s store) store {
	return store{slices.Clone(s.l), of(s.c.V, slices.Clone(s.c.Cloud)...)}
}

// shown is how a thing is told where it is not as it should be: its beginning.
func shown(thing any) string { return fmt.Sprintf("%.300s", fmt.Sprintf("%+v", thing)) }

// one is a tag, and a context that has just its dot.
func one() store { return store{[]api.Fact{tag(at(0, 1), "x")}, of(api.Vector{1})} }

// full is a store of facts of each kind, of two backups, some of whose dots are beyond the vector.
func full() store {
	return store{
		[]api.Fact{
			said(at(1, 1), api.FactBackup, plainly.ManifestOf(5, 4)),
			said(at(2, 4), api.FactBackup, plainly.ManifestOf(0, 1)),
			said(at(1, 2), api.FactLabel, "of a day"),
			tag(at(1, 3), "x"),
			tag(at(1, 3), "y"),
			tag(at(2, 9), "x"),
			said(at(15, api.MaxCount), api.FactKeep, "\x3f\xf0\x00\x00\x00\x00\x00\x00"),
			named(tag(at(1, 1), "x"), "b"),
		},
		of(api.Vector{7, 3, 4}, at(2, 9), at(3, 300), at(15, api.MaxCount)),
	}
}

// tags is a store of n short facts, and of no more dots than theirs.
func tags(n int) store {
	var s store
	for i := range n {
		d := at(i%api.Replicas, 1+i/api.Replicas)
		s.l, s.c.V[d.Replica] = append(s.l, tag(d, "")), d.N
		s.l[i].Kind = api.FactLabel
	}
	s.l = fact.Sort(s.l)
	return s
}

// beyond is one, with n dots beyond its vector, none of which stands behind another one.
func beyond(n int) store {
	s := one()
	for i := range n {
		s.c.Cloud = append(s.c.Cloud, at(i*api.Replicas/n, 2*i+3))
	}
	return s
}

// great is a store of four backups whose manifests are as long as they may be, and of a label of so many bytes: all together as long as a text may be, or just longer.
func great(label int) store {
	s := store{c: of(api.Vector{4})}
	for i := range 4 {
		s.l = append(s.l, named(said(at(0, 1+i), api.FactBackup, plainly.ManifestOf(32768, 131)), strconv.Itoa(100+i)))
	}
	s.l = append(s.l, named(said(at(0, 4), api.FactLabel, strings.Repeat("l", label)), "103"))
	return s
}

// lay is how two parts' bytes stand, whatever they are.
func lay(facts, context string) string { return plainly.Text(facts) + plainly.Text(context) }

// plainPut is what promise 21.1 says that Put puts, also where it would not.
func plainPut(s store) string { return lay(plainly.Facts(s.l...), plainly.Context(s.c)) }

// plainError is the first error that it says Put answers.
func plainError(s store) api.Errno {
	if err := kernel.Check(s.l, s.c); err != api.OK {
		return err
	}
	if len(s.l) > 4096 || len(s.c.Cloud) > 4096 || len(plainly.Facts(s.l...)) > 65536 || len(plainly.Context(s.c)) > 65536 {
		return api.ErrLong
	}
	return api.OK
}

// answers fails unless Put answers this, and leaves what is handed in.
func answers(t *testing.T, s store, want string, wantErr api.Errno) {
	t.Helper()
	kept := copied(s)
	if got, err := canon.Put(s.l, s.c); got != want || err != wantErr {
		t.Errorf("Put of %d facts, %d dots beyond, %s = %d bytes, %.100q, error %d; want %d, %.100q, error %d",
			len(s.l), len(s.c.Cloud), shown(s), len(got), got, err, len(want), want, wantErr)
	}
	if !same(s, kept) {
		t.Errorf("Put changed what was handed in: %s; want %s", shown(s), shown(kept))
	}
}

// puts fails unless Put answers want, and Read reads it again.
func puts(t *testing.T, s store, want string) {
	t.Helper()
	answers(t, s, want, api.OK)
	l, c, err := canon.Read(want)
	if got := (store{l, c}); !same(got, s) || err != api.OK {
		t.Errorf("Read of %.100q = %s, error %d; want %s", want, shown(got), err, shown(s))
	}
}

// notPut fails unless Put answers this error, and nothing beside it.
func notPut(t *testing.T, s store, want api.Errno) {
	t.Helper()
	answers(t, s, "", want)
}

// Promise 21.1: Put, and Read of what was put.

func TestPutPutsTwoTexts(t *testing.T) {
	none := "\x12" + strings.Repeat("\x00", 16) + "\x01\x00"
	puts(t, store{}, "\x01\x00"+none)
	puts(t, store{[]api.Fact{}, api.Context{Cloud: []api.Dot{}}}, "\x01\x00"+none)
	oneTag := "\x0a\x01\x00\x01\x05\x01\x03\x01a\x01x"
	puts(t, one(), oneTag+"\x12\x01"+strings.Repeat("\x00", 15)+"\x01\x00")
	puts(t, store{one().l, of(api.Vector{1}, at(1, 3))}, oneTag+"\x14\x01"+strings.Repeat("\x00", 15)+"\x03\x01\x01\x03")
	puts(t, store{nil, of(api.Vector{15: 300})}, "\x01\x00"+"\x13"+strings.Repeat("\x00", 15)+"\xac\x02\x01\x00")
	two := store{[]api.Fact{tag(at(0, 1), "x"), tag(at(1, 2), "y")}, of(api.Vector{1}, at(1, 2))}
	puts(t, two, "\x13\x02\x00\x01\x05\x01\x03\x01a\x01x\x01\x02\x05\x01\x03\x01a\x01y"+"\x14\x01"+strings.Repeat("\x00", 15)+"\x03\x01\x01\x02")
	puts(t, full(), plainPut(full()))
}

func TestPutOfEachReplica(t *testing.T) {
	for replica := range api.Replicas {
		for _, n := range []int{1, 2, 127, 128, 300, api.MaxCount} {
			// The dot may be one that the vector counts, or one beyond it.
			s := store{[]api.Fact{tag(at(replica, n), "x")}, api.Context{}}
			s.c.V[replica] = n
			puts(t, s, plainPut(s))
			if n > 1 {
				s.c = of(api.Vector{}, at(replica, n))
				puts(t, s, plainPut(s))
			}
		}
	}
}

func TestPutOfManyFacts(t *testing.T) {
	for _, n := range []int{1, 2, 12, 13, 14, 127, 128, 1000, 4095, 4096} {
		puts(t, tags(n), plainPut(tags(n)))
	}
	for _, n := range []int{4097, 4098, 5000} {
		if size := len(plainly.Facts(tags(n).l...)); size > 65536 {
			t.Fatalf("%d facts have %d bytes, which are too many themselves", n, size)
		}
		notPut(t, tags(n), api.ErrLong)
	}
	notPut(t, tags(20000), api.ErrLong)
}

func TestPutOfManyDots(t *testing.T) {
	for _, n := range []int{1, 2, 54, 55, 56, 127, 128, 1000, 4095, 4096} {
		puts(t, beyond(n), plainPut(beyond(n)))
		puts(t, store{nil, beyond(n).c}, plainPut(store{nil, beyond(n).c}))
	}
	for _, n := range []int{4097, 4098, 20000} {
		notPut(t, beyond(n), api.ErrLong)
		notPut(t, store{nil, beyond(n).c}, api.ErrLong)
	}
	// The longest names that there are, as many as can be, are not too long.
	var s store
	for i := range api.Replicas {
		s.c.V[i] = api.MaxCount / 2
	}
	for i := range 4096 {
		s.c.Cloud = append(s.c.Cloud, at(15, api.MaxCount-4095+i))
	}
	puts(t, s, plainPut(s))
}

// Each fact may be said, but they may be too long for a text, all together.
func TestPutOfFactsAtTheLimitOfAText(t *testing.T) {
	sizes := map[int]bool{}
	for label := range 257 {
		s := great(label)
		size := len(plainly.Facts(s.l...))
		sizes[size] = true
		if err := kernel.Check(s.l, s.c); err != api.OK {
			t.Fatalf("%d bytes of facts are none of a store: error %d", size, err)
		}
		if size > 65536 {
			notPut(t, s, api.ErrLong)
			notRead(t, plainPut(s), api.ErrLong)
		} else {
			puts(t, s, plainPut(s))
		}
	}
	if !sizes[65536] || !sizes[65537] {
		t.Error("no facts of just as many bytes as a text may have, or of one more")
	}
}

// wrong is what is no store, and the error that layer 16's Check tells of it.
type wrong struct {
	s    store
	want api.Errno
}

// wrongStores are some for each thing that is asked there.
func wrongStores() []wrong {
	x, y := tag(at(0, 1), "x"), tag(at(0, 2), "y")
	unlike := x
	unlike.Stamp.Replica = 1
	c := of(api.Vector{2})
	return []wrong{
		{store{nil, of(api.Vector{-1})}, api.ErrRange},
		{store{nil, of(api.Vector{15: api.MaxCount + 1})}, api.ErrRange},
		{store{nil, of(api.Vector{3: math.MinInt})}, api.ErrRange},
		{store{nil, of(api.Vector{}, at(0, 1))}, api.ErrForm},
		{store{nil, of(api.Vector{2}, at(0, 2))}, api.ErrForm},
		{store{nil, of(api.Vector{}, at(0, 3), at(0, 3))}, api.ErrForm},
		{store{nil, of(api.Vector{}, at(1, 3), at(0, 3))}, api.ErrForm},
		{store{nil, of(api.Vector{}, at(16, 3))}, api.ErrForm},
		{store{nil, of(api.Vector{}, at(0, 0))}, api.ErrForm},
		{store{[]api.Fact{tag(at(0, 0), "x")}, c}, api.ErrRange},
		{store{[]api.Fact{tag(at(16, 1), "x")}, c}, api.ErrRange},
		{store{[]api.Fact{unlike}, c}, api.ErrForm},
		{store{[]api.Fact{said(at(0, 1), 0, "x")}, c}, api.ErrArg},
		{store{[]api.Fact{said(at(0, 1), 5, "x")}, c}, api.ErrArg},
		{store{[]api.Fact{named(x, "")}, c}, api.ErrName},
		{store{[]api.Fact{tag(at(0, 1), "")}, c}, api.ErrName},
		{store{[]api.Fact{said(at(0, 1), api.FactLabel, strings.Repeat("l", 257))}, c}, api.ErrLong},
		{store{[]api.Fact{said(at(0, 1), api.FactBackup, "")}, c}, api.ErrCut},
		{store{[]api.Fact{said(at(0, 1), api.FactKeep, "1234567")}, c}, api.ErrForm},
		{store{[]api.Fact{y, x}, c}, api.ErrForm},
		{store{[]api.Fact{x, x}, c}, api.ErrForm},
		{store{[]api.Fact{x, later(x)}, c}, api.ErrForm},
		{store{[]api.Fact{x}, api.Context{}}, api.ErrForm},
		{store{[]api.Fact{x, y}, of(api.Vector{1})}, api.ErrForm},
		{store{[]api.Fact{x, y}, of(api.Vector{}, at(0, 2))}, api.ErrForm},
	}
}

func TestPutRefusesWhatIsNoStore(t *testing.T) {
	for _, c := range wrongStores() {
		notPut(t, c.s, c.want)
		if err := kernel.Check(c.s.l, c.s.c); err != c.want {
			t.Errorf("layer 16's Check of %s = error %d; want %d", shown(c.s), err, c.want)
		}
	}
}

// faults are what may be wrong with a store of four facts and no dots beyond, in the order in which it is asked.
func faults() []func(s *store) {
	return []func(s *store){
		func(s *store) { s.c.V[0] = -1000 },
		func(s *store) { s.c.Cloud = append(s.c.Cloud, at(15, 0)) },
		func(s *store) { s.l[0].Dot.N = 0 },
		func(s *store) { s.l[1].Kind = 9 },
		func(s *store) { s.l[2].Name = "" },
		func(s *store) { s.l[2], s.l[3] = s.l[3], s.l[2] },
		func(s *store) { s.l = slices.Insert(s.l, 4, later(s.l[3])) },
		func(s *store) { s.l[3].Dot.N = 999 },
		func(s *store) {
			for _, f := range tags(5000).l {
				s.l = append(s.l, named(f, "b"))
			}
			for i := range s.c.V {
				s.c.V[i] += 400
			}
		},
		func(s *store) {
			for i := range 4097 {
				s.c.Cloud = append(s.c.Cloud, at(15, 2000+2*i))
			}
		},
		func(s *store) {
			for i := range 257 {
				s.l = append(s.l, named(said(at(0, 1), api.FactLabel, strings.Repeat("l", 256)), "c"+strconv.Itoa(100+i)))
			}
		},
	}
}

// faulty is a store with two of the faults, or with one alone if they are the same one.
func faulty(i, j int) store {
	s := tags(4)
	faults()[i](&s)
	if i != j {
		faults()[j](&s)
	}
	return s
}

func TestPutTellsTheFirstError(t *testing.T) {
	told := map[api.Errno]bool{}
	for i := range faults() {
		for j := i; j < len(faults()); j++ {
			s := faulty(i, j)
			want := plainError(s)
			if want == api.OK {
				t.Fatalf("nothing is wrong with faults %d and %d", i, j)
			}
			notPut(t, s, want)
			told[want] = true
		}
	}
	for _, err := range []api.Errno{api.ErrArg, api.ErrRange, api.ErrLong, api.ErrForm, api.ErrName} {
		if !told[err] {
			t.Errorf("no store has error %d", err)
		}
	}
	// The last three alone are no faults of the store itself.
	for i := 8; i < 11; i++ {
		if s := faulty(i, i); kernel.Check(s.l, s.c) != api.OK {
			t.Errorf("fault %d is one of the store itself", i)
		}
		notPut(t, faulty(i, i), api.ErrLong)
		notPut(t, faulty(7, i), api.ErrForm)
	}
}

// small are small stores, and what is none, each unlike all others.
func small() []store {
	some := fact.Sort([]api.Fact{
		tag(at(0, 1), "x"), tag(at(0, 1), "y"), later(tag(at(0, 1), "x")), tag(at(0, 2), "x"), tag(at(1, 1), "x"),
		said(at(0, 1), api.FactLabel, "x"), named(tag(at(0, 1), "x"), "b"), named(tag(at(0, 0), "x"), "b"),
	})
	contexts := []api.Context{
		{}, of(api.Vector{1}), of(api.Vector{2}), of(api.Vector{}, at(0, 2)), of(api.Vector{0, 1}), of(api.Vector{1, 1}), of(api.Vector{2, 1}),
		of(api.Vector{0, 1}, at(0, 2)), of(api.Vector{2, 2}), of(api.Vector{2, 1}, at(5, 2)), of(api.Vector{}, at(0, 1)), of(api.Vector{-1, -1, 3}),
	}
	var all []store
	for bits := range 1 << len(some) {
		for _, c := range contexts {
			s := store{c: c}
			for i, f := range some {
				if bits>>i&1 == 1 {
					s.l = append(s.l, f)
				}
			}
			all = append(all, s)
		}
	}
	return all
}

func TestPutOfManyStores(t *testing.T) {
	taken := 0
	for _, s := range small() {
		if want := plainError(s); want != api.OK {
			notPut(t, s, want)
			continue
		}
		puts(t, s, plainPut(s))
		taken++
	}
	if taken < 100 {
		t.Errorf("%d stores are such", taken)
	}
}

// Room behind what is handed in is not written to.
func TestPutLeavesTheRoomBehind(t *testing.T) {
	s := full()
	l, cloud := slices.Clone(s.l), slices.Clone(s.c.Cloud)
	if _, err := canon.Put(l[:7], of(s.c.V, cloud...)); err != api.OK {
		t.Fatalf("error %d", err)
	}
	if _, err := canon.Put(l, of(s.c.V, cloud[:2]...)); err != api.ErrForm {
		t.Fatalf("error %d", err)
	}
	if !same(store{l, of(s.c.V, cloud...)}, s) {
		t.Errorf("Put changed what was handed in: %v, %v", l, cloud)
	}
}

// Promise 21.2: catalogs that are the same have the same bytes, and others have others.

func TestOthersHaveOtherBytes(t *testing.T) {
	seen := map[string]store{}
	all := append(small(), full(), tags(100), tags(101), beyond(100), beyond(101), great(0), great(1))
	// A fact that differs in one part alone is another one.
	for _, change := range []func(f *api.Fact){
		func(f *api.Fact) { f.Stamp.Time = 9 },
		func(f *api.Fact) { f.Stamp.Count = 9 },
		func(f *api.Fact) { f.Dot.N = 4 },
		func(f *api.Fact) { f.Dot.Replica, f.Stamp.Replica = 2, 2 },
		func(f *api.Fact) { f.Name = "c" },
		func(f *api.Fact) { f.Value = "z" },
		func(f *api.Fact) { f.Kind = api.FactLabel },
	} {
		s := full()
		change(&s.l[7])
		s.l = fact.Sort(s.l)
		s.c.V[1] = 4
		all = append(all, s)
	}
	for i := range api.Replicas {
		s := one()
		s.c.V[i] += 7
		all = append(all, s, store{one().l, of(api.Vector{1}, at(i, 8))})
	}
	for _, s := range all {
		bytes, err := canon.Put(s.l, s.c)
		if other, ok := seen[bytes]; ok && err == api.OK {
			t.Errorf("Put of %s, %s = %.100q", shown(s), shown(other), bytes)
		}
		if err == api.OK {
			seen[bytes] = s
		}
	}
	if len(seen) < 140 {
		t.Errorf("%d stores were put", len(seen))
	}
}

// update is what a replica's update of these facts' dot says and takes back.
func update(d api.Dot, gone []api.Dot, values ...string) api.Delta {
	u := api.Delta{Dot: d, Stamp: tag(d, "").Stamp, Gone: gone}
	for _, value := range values {
		u.Facts = append(u.Facts, tag(d, value))
	}
	return u
}

// left is what is left behind updates, one behind the other.
func left(updates []api.Delta) store {
	var s store
	for _, d := range updates {
		s.l, s.c = kernel.Apply(s.l, s.c, d)
	}
	return s
}

func TestTheSameHaveTheSameBytesWhicheverComesFirst(t *testing.T) {
	updates := []api.Delta{
		update(at(0, 1), nil, "x", "y"),
		update(at(0, 2), []api.Dot{at(0, 1)}, "y"),
		update(at(1, 1), []api.Dot{at(0, 1)}, "x"),
		update(at(1, 2), []api.Dot{at(0, 2)}),
		update(at(3, 7), nil, "z"),
	}
	want := plainPut(store{[]api.Fact{tag(at(1, 1), "x"), tag(at(3, 7), "z")}, of(api.Vector{2, 2}, at(3, 7))})
	for _, l := range plainly.Orders(updates) {
		puts(t, left(l), want)
		puts(t, left(slices.Concat(l, updates)), want)
		for at := range l {
			a, b := left(l[:at]), left(l[at:])
			joined, c := kernel.Join(a.l, a.c, b.l, b.c)
			puts(t, store{joined, c}, want)
		}
	}
}

// What was read and put again and again is the same, and what was read of it goes on as the store did.
func TestWhatWasReadGoesOn(t *testing.T) {
	x, y := update(at(0, 1), nil, "x"), update(at(1, 1), []api.Dot{at(0, 1)}, "y")
	s := left([]api.Delta{x})
	bytes, _ := canon.Put(s.l, s.c)
	l, c, err := canon.Read(bytes)
	if err != api.OK {
		t.Fatalf("error %d", err)
	}
	l, c = kernel.Apply(l, c, y)
	both := left([]api.Delta{x, y})
	puts(t, store{l, c}, plainPut(both))
	// An update that was there is known behind it, though nothing of it is left.
	l, c = kernel.Apply(l, c, x)
	puts(t, store{l, c}, plainPut(both))
}
