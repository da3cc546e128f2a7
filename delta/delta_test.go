package delta_test

import (
	"fmt"
	"math"
	"slices"
	"strconv"
	"strings"
	"testing"

	"almonry/api"
	"almonry/delta"
	"almonry/dot"
	"almonry/fact"
	"almonry/plainly"
	"almonry/stamp"
)

// at is the name of a replica's update.
func at(replica, n int) api.Dot { return api.Dot{Replica: replica, N: n} }

// bare is replica 2's fifth update, which says nothing yet.
func bare() api.Delta {
	return api.Delta{Dot: at(2, 5), Stamp: api.Stamp{Time: 7, Count: 1, Replica: 2}}
}

// saying is d, with one more fact.
func saying(d api.Delta, kind int, name, value string) api.Delta {
	f := api.Fact{Dot: d.Dot, Stamp: d.Stamp, Kind: kind, Name: name, Value: value}
	d.Facts = append(slices.Clone(d.Facts), f)
	return d
}

// back is d, but with these updates taken back.
func back(d api.Delta, gone ...api.Dot) api.Delta {
	d.Gone = gone
	return d
}

// saidBy is what d says and takes back, said by another one.
func saidBy(d api.Delta, name api.Dot, when api.Stamp) api.Delta {
	d.Dot, d.Stamp, d.Facts = name, when, slices.Clone(d.Facts)
	for i := range d.Facts {
		d.Facts[i].Dot, d.Facts[i].Stamp = name, when
	}
	return d
}

// full says a fact of each kind, and takes two updates back.
func full() api.Delta {
	d := saying(bare(), api.FactBackup, "b", plainly.ManifestOf(5, 2))
	d = saying(d, api.FactLabel, "b", "of a day")
	d = saying(d, api.FactTag, "b", "kept")
	d = saying(d, api.FactKeep, "b", "\x3f\xf0\x00\x00\x00\x00\x00\x00")
	return back(d, at(2, 4), at(2, 6))
}

// tags says n tags.
func tags(n int) api.Delta {
	d := bare()
	for i := range n {
		d.Facts = append(d.Facts, api.Fact{Dot: d.Dot, Stamp: d.Stamp, Kind: api.FactTag, Name: "b", Value: strconv.Itoa(10000 + i)})
	}
	return d
}

// dots are n names that rise, none of which is at(2, 5).
func dots(n int) []api.Dot {
	var l []api.Dot
	for i := range n {
		l = append(l, at(i*api.Replicas/n, 300*i+1))
	}
	return l
}

// with is l, but with a thing at a place.
func with[T any](l []T, place int, thing T) []T {
	l = slices.Clone(l)
	l[place] = thing
	return l
}

// edges are numbers at which something may go over, rising.
func edges() []int {
	return []int{
		math.MinInt, math.MinInt + 1, -api.MaxCount, -1, 0, 1, 2, 4, 5, 6, 15, 16, 17, 127, 128,
		api.MaxCount - 1, api.MaxCount, api.MaxCount + 1, api.MaxNum, math.MaxInt - 1, math.MaxInt,
	}
}

// wrongDots are some that are no names of updates.
func wrongDots() []api.Dot {
	return []api.Dot{
		{}, at(2, 0), at(-1, 1), at(16, 1), at(0, -1), at(3, api.MaxCount+1), at(math.MaxInt, math.MaxInt), at(math.MinInt, 1), at(15, math.MinInt),
	}
}

// shown is how a thing is told where it is not as it should be: its beginning.
func shown(thing any) string { return fmt.Sprintf("%.300s", fmt.Sprintf("%+v", thing)) }

// same tells whether two updates are the same; a list that is empty may be nil.
func same(a, b api.Delta) bool {
	return a.Dot == b.Dot && a.Stamp == b.Stamp && slices.Equal(a.Facts, b.Facts) && slices.Equal(a.Gone, b.Gone)
}

// copied is an update that shares no memory with d.
func copied(d api.Delta) api.Delta {
	d.Facts, d.Gone = slices.Clone(d.Facts), slices.Clone(d.Gone)
	return d
}

// checks fails unless Check answers this error of d, and leaves it.
func checks(t *testing.T, d api.Delta, want api.Errno) {
	t.Helper()
	kept := copied(d)
	if err := delta.Check(d); err != want {
		t.Errorf("Check of %d facts, %d gone, %s, = error %d; want %d", len(d.Facts), len(d.Gone), shown(d), err, want)
	}
	if !same(d, kept) {
		t.Errorf("Check changed what was handed in: %s; want %s", shown(d), shown(kept))
	}
}

// Promise 18.1: Check.

func TestCheckTakesUpdates(t *testing.T) {
	for _, d := range []api.Delta{
		bare(),
		{Dot: at(0, 1)},
		{Dot: at(0, 1), Facts: []api.Fact{}, Gone: []api.Dot{}},
		full(),
		saying(bare(), api.FactTag, "b", "x"),
		back(bare(), at(0, 1)),
		back(bare(), at(2, 4)),
		back(bare(), at(2, 6)),
		back(bare(), at(15, api.MaxCount)),
		back(bare(), dots(16)...),
		saying(saying(bare(), api.FactTag, "a", "x"), api.FactTag, "b", "x"),
		saying(saying(bare(), api.FactTag, "b", "x"), api.FactTag, "b", "y"),
		saying(saying(bare(), api.FactBackup, "a", plainly.ManifestOf(1, 1)), api.FactBackup, "b", plainly.ManifestOf(1, 1)),
	} {
		checks(t, d, api.OK)
	}
	for replica := range api.Replicas {
		d := full()
		checks(t, saidBy(d, at(replica, 5), api.Stamp{Time: 7, Replica: replica}), api.OK)
		checks(t, saidBy(d, at(replica, 1), api.Stamp{Replica: replica}), api.OK)
		checks(t, saidBy(d, at(replica, api.MaxCount), api.Stamp{Time: api.MaxTime, Count: api.MaxTime, Replica: replica}), api.OK)
	}
}

func TestCheckAsksTheDotAndTheStamp(t *testing.T) {
	// wants is what is asked of a replica, once layer 11 or 14 has answered err.
	wants := func(err api.Errno, replica int) api.Errno {
		if err == api.OK && replica != 2 {
			return api.ErrForm
		}
		return err
	}
	for _, replica := range edges() {
		for _, n := range edges() {
			d := bare()
			d.Dot = at(replica, n)
			checks(t, d, wants(dot.Check(d.Dot), replica))
			d = bare()
			d.Stamp.Replica, d.Stamp.Time = replica, n
			checks(t, d, wants(stamp.Check(d.Stamp), replica))
			d = bare()
			d.Stamp.Replica, d.Stamp.Count = replica, n
			checks(t, d, wants(stamp.Check(d.Stamp), replica))
		}
	}
}

func TestCheckWantsOneReplica(t *testing.T) {
	for a := range api.Replicas {
		for b := range api.Replicas {
			want := api.ErrForm
			if a == b {
				want = api.OK
			}
			checks(t, api.Delta{Dot: at(a, 1), Stamp: api.Stamp{Replica: b}}, want)
		}
	}
}

// wrongFacts are f with what layer 15's Check refuses, and with which error.
func wrongFacts(f api.Fact) map[api.Errno]api.Fact {
	l := map[api.Errno]api.Fact{api.ErrRange: f, api.ErrForm: f, api.ErrArg: f, api.ErrName: f, api.ErrLong: f, api.ErrCut: f}
	for err, f := range l {
		switch err {
		case api.ErrRange:
			f.Dot.N = 0
		case api.ErrForm:
			f.Kind, f.Value = api.FactKeep, "short"
		case api.ErrArg:
			f.Kind = 0
		case api.ErrName:
			f.Name = ""
		case api.ErrLong:
			f.Kind, f.Value = api.FactLabel, strings.Repeat("l", 257)
		case api.ErrCut:
			f.Kind, f.Value = api.FactBackup, "\x80"
		}
		l[err] = f
	}
	return l
}

func TestCheckAsksEachFact(t *testing.T) {
	d := tags(5)
	for place := range d.Facts {
		for want, f := range wrongFacts(d.Facts[place]) {
			wrong := d
			wrong.Facts = with(d.Facts, place, f)
			checks(t, wrong, want)
			// The first one's error is told.
			for other := range d.Facts {
				for second, f := range wrongFacts(d.Facts[other]) {
					both := wrong
					both.Facts = with(wrong.Facts, other, f)
					switch {
					case other < place:
						checks(t, both, second)
					case other > place:
						checks(t, both, want)
					}
				}
			}
		}
	}
}

// What another update says, d may not say, if that may be said at all.
func TestCheckWantsItsOwnFacts(t *testing.T) {
	d := tags(4)
	for place := range d.Facts {
		for _, change := range []func(f *api.Fact){
			func(f *api.Fact) { f.Dot.N++ },
			func(f *api.Fact) { f.Dot.N-- },
			func(f *api.Fact) { f.Stamp.Time++ },
			func(f *api.Fact) { f.Stamp.Time-- },
			func(f *api.Fact) { f.Stamp.Count++ },
			func(f *api.Fact) { f.Stamp.Count-- },
			func(f *api.Fact) { f.Dot.Replica, f.Stamp.Replica = 3, 3 },
			func(f *api.Fact) { f.Dot.Replica, f.Stamp.Replica = 1, 1 },
		} {
			f := d.Facts[place]
			change(&f)
			other := d
			other.Facts = with(d.Facts, place, f)
			checks(t, other, api.ErrForm)
			// A fact alone rises as it is.
			other.Facts = []api.Fact{f}
			checks(t, other, api.ErrForm)
		}
	}
	other := d
	other.Facts = saidBy(d, at(3, 5), api.Stamp{Time: 7, Count: 1, Replica: 3}).Facts
	checks(t, other, api.ErrForm)
}

func TestCheckWantsFactsThatRise(t *testing.T) {
	d := tags(5)
	for i := range d.Facts {
		for j := range d.Facts {
			want := api.ErrForm
			if i == j {
				want = api.OK
			}
			// Two change places, or one stands at both.
			checks(t, api.Delta{Dot: d.Dot, Stamp: d.Stamp, Facts: with(with(d.Facts, i, d.Facts[j]), j, d.Facts[i])}, want)
			checks(t, api.Delta{Dot: d.Dot, Stamp: d.Stamp, Facts: with(d.Facts, i, d.Facts[j])}, want)
		}
	}
	checks(t, saying(saying(bare(), api.FactTag, "b", "x"), api.FactTag, "a", "x"), api.ErrForm)
	checks(t, saying(saying(bare(), api.FactTag, "b", "x"), api.FactLabel, "b", "x"), api.ErrForm)
	checks(t, saying(saying(bare(), api.FactTag, "b", "x"), api.FactLabel, "c", "x"), api.OK)
}

func TestCheckAsksEachGone(t *testing.T) {
	for size := 1; size < 6; size++ {
		for place := range size {
			for _, wrong := range wrongDots() {
				checks(t, back(bare(), with(dots(size), place, wrong)...), api.ErrRange)
				checks(t, back(full(), with(dots(size), place, wrong)...), api.ErrRange)
			}
		}
	}
	// Each is asked ahead of whether they rise, and whether it is the update itself.
	checks(t, back(bare(), at(1, 2), at(1, 1), at(0, 0)), api.ErrRange)
	checks(t, back(bare(), at(2, 5), at(2, 5), at(16, 1)), api.ErrRange)
}

func TestCheckWantsGonesThatRise(t *testing.T) {
	l := dots(5)
	for i := range l {
		for j := range l {
			want := api.ErrForm
			if i == j {
				want = api.OK
			}
			checks(t, back(bare(), with(with(l, i, l[j]), j, l[i])...), want)
			checks(t, back(bare(), with(l, i, l[j])...), want)
		}
	}
	checks(t, back(bare(), at(1, 2), at(1, 1)), api.ErrForm)
	checks(t, back(bare(), at(1, 1), at(0, 2)), api.ErrForm)
	checks(t, back(bare(), at(0, 9), at(1, 1)), api.OK)
}

func TestCheckTakesNotItselfBack(t *testing.T) {
	for size := range 20 {
		l := dot.Sort(append(dots(size), at(2, 5)))
		checks(t, back(bare(), l...), api.ErrForm)
		// The update beside it, and the one of this number elsewhere, may go.
		checks(t, back(bare(), dot.Sort(append(dots(size), at(2, 4), at(2, 6), at(1, 5), at(3, 5)))...), api.OK)
	}
	// It is found in a list of any length, wherever it stands there.
	for _, size := range []int{1, 2, 255, 256} {
		l := dots(size)
		for _, name := range l {
			checks(t, back(api.Delta{Dot: name, Stamp: api.Stamp{Replica: name.Replica}}, l...), api.ErrForm)
		}
	}
}

func TestCheckLimitsBothLists(t *testing.T) {
	for _, n := range []int{0, 1, 255, 256, 257, 258, 512, api.MaxList, api.MaxList + 1, 3 * api.MaxList} {
		want := api.OK
		if n > 256 {
			want = api.ErrLong
		}
		checks(t, tags(n), want)
		checks(t, back(bare(), dots(n)...), want)
		checks(t, back(tags(n), dots(n)...), want)
		checks(t, back(tags(256), dots(n)...), want)
		checks(t, back(tags(n), dots(256)...), want)
	}
	// Of too many, all else that is wrong is told ahead: at the last place too.
	long := tags(5000)
	for want, f := range wrongFacts(long.Facts[4999]) {
		wrong := long
		wrong.Facts = with(long.Facts, 4999, f)
		checks(t, wrong, want)
	}
	unlike := long
	unlike.Dot.N++
	checks(t, unlike, api.ErrForm)
	checks(t, back(long, at(2, 5)), api.ErrForm)
	checks(t, back(bare(), append(dots(5000), at(16, 1))...), api.ErrRange)
	checks(t, back(bare(), append(dots(5000), at(15, 1))...), api.ErrForm)
}

// plainCheck is what promise 18.1 says that Check answers: the first error of those that apply.
func plainCheck(d api.Delta) api.Errno {
	var facts, gone api.Errno
	for _, f := range slices.Backward(d.Facts) {
		if err := fact.Check(f); err != api.OK {
			facts = err
		}
	}
	for _, g := range slices.Backward(d.Gone) {
		if err := dot.Check(g); err != api.OK {
			gone = err
		}
	}
	alien := slices.ContainsFunc(d.Facts, func(f api.Fact) bool { return f.Dot != d.Dot || f.Stamp != d.Stamp })
	for _, c := range []struct {
		applies bool
		err     api.Errno
	}{
		{dot.Check(d.Dot) != api.OK, dot.Check(d.Dot)},
		{stamp.Check(d.Stamp) != api.OK, stamp.Check(d.Stamp)},
		{d.Dot.Replica != d.Stamp.Replica, api.ErrForm},
		{facts != api.OK, facts},
		{alien || !slices.Equal(d.Facts, fact.Sort(d.Facts)), api.ErrForm},
		{gone != api.OK, gone},
		{!slices.Equal(d.Gone, dot.Sort(d.Gone)) || slices.Contains(d.Gone, d.Dot), api.ErrForm},
		{len(d.Facts) > 256 || len(d.Gone) > 256, api.ErrLong},
	} {
		if c.applies {
			return c.err
		}
	}
	return api.OK
}

// faults are what may be wrong with an update of some facts and gones, in the order in which it is asked.
func faults() []func(d *api.Delta) {
	return []func(d *api.Delta){
		func(d *api.Delta) { d.Dot.N = 0 },
		func(d *api.Delta) { d.Stamp.Time = -1 },
		func(d *api.Delta) { d.Stamp.Replica = 3 },
		func(d *api.Delta) { d.Facts[0].Kind = 0 },
		func(d *api.Delta) { d.Facts[1].Name = "" },
		func(d *api.Delta) { d.Facts[1].Stamp.Count++ },
		func(d *api.Delta) { d.Facts[1], d.Facts[2] = d.Facts[2], d.Facts[1] },
		func(d *api.Delta) { d.Gone[1].N = 0 },
		func(d *api.Delta) { d.Gone[0], d.Gone[2] = d.Gone[2], d.Gone[0] },
		func(d *api.Delta) { d.Gone = dot.Sort(append(d.Gone, at(2, 5))) },
		func(d *api.Delta) { d.Facts = append(d.Facts, tags(257).Facts[3:]...) },
		func(d *api.Delta) { d.Gone = append(slices.Clone(dots(257)[:256]), d.Gone...) },
	}
}

// mixed are updates with each fault beside each of the other ones.
func mixed() []api.Delta {
	var l []api.Delta
	for set := range 1 << len(faults()) {
		d := back(tags(3), at(15, 1<<30), at(15, 1<<31), at(15, 1<<32))
		for i, fault := range faults() {
			if set>>i&1 == 1 {
				fault(&d)
			}
		}
		l = append(l, d)
	}
	return l
}

func TestCheckTellsTheFirstError(t *testing.T) {
	told := map[api.Errno]bool{}
	for _, d := range mixed() {
		want := plainCheck(d)
		checks(t, d, want)
		told[want] = true
	}
	for _, err := range []api.Errno{api.OK, api.ErrArg, api.ErrRange, api.ErrLong, api.ErrForm, api.ErrName} {
		if !told[err] {
			t.Errorf("no update has error %d", err)
		}
	}
	checks(t, api.Delta{}, api.ErrRange)
}

// Promise 18.1: Less.

func TestLessIsByDot(t *testing.T) {
	for i, replica := range edges() {
		for j, other := range edges() {
			for k, n := range edges() {
				for l, m := range edges() {
					want := i < j || i == j && k < l
					if got := delta.Less(api.Delta{Dot: at(replica, n)}, api.Delta{Dot: at(other, m)}); got != want {
						t.Fatalf("Less of %d %d, %d %d = %t", replica, n, other, m, got)
					}
				}
			}
		}
	}
}

// Whatever else is told apart in two updates says nothing of which one is ahead.
func TestLessAsksNothingElse(t *testing.T) {
	low, high := bare(), full()
	low.Stamp, high.Stamp = api.Stamp{Time: -5, Count: 9, Replica: 99}, api.Stamp{Time: 5, Count: 8, Replica: -1}
	high.Gone = append(high.Gone, wrongDots()...)
	for _, a := range []api.Delta{low, high, tags(300)} {
		for _, b := range []api.Delta{low, high, tags(300)} {
			if delta.Less(a, b) {
				t.Errorf("Less(%s, %s) of one Dot", shown(a), shown(b))
			}
			b.Dot = at(2, 6)
			if !delta.Less(a, b) || delta.Less(b, a) {
				t.Errorf("Less of %s, %s = %t, %t the other way round", shown(a), shown(b), delta.Less(a, b), delta.Less(b, a))
			}
		}
	}
}
