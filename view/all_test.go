package view_test

import (
	"fmt"
	"maps"
	"math"
	"math/rand/v2"
	"slices"
	"strings"
	"testing"

	"almonry/api"
	"almonry/chunk"
	"almonry/float"
	"almonry/kernel"
	"almonry/op"
	"almonry/plainly"
	"almonry/view"
)

// seesAll fails unless All answers these entries, and leaves what is handed in.
func seesAll(t *testing.T, l []api.Fact, want ...api.Entry) {
	t.Helper()
	kept := slices.Clone(l)
	if got := view.All(l); !slices.EqualFunc(got, want, same) {
		t.Errorf("All of %d facts, %s = %s; want %s", len(l), shown(l), shown(got), shown(want))
	}
	if !slices.Equal(l, kept) {
		t.Errorf("All changed what was handed in: %s; want %s", shown(l), shown(kept))
	}
}

// ofAll are facts, but of another backup.
func ofAll(name string, l []api.Fact) []api.Fact {
	var those []api.Fact
	for _, f := range l {
		those = append(those, of(name, f))
	}
	return those
}

// entryOf is an entry, but of another backup.
func entryOf(name string, e api.Entry) api.Entry {
	e.Name = name
	return e
}

// Promise 20.1: Names.

func TestNames(t *testing.T) {
	named(t, nil)
	named(t, []api.Fact{})
	named(t, full(), "a")
	named(t, full()[2:])
	named(t, []api.Fact{of("", backup(at(1, 1), ""))}, "")
	// A backup has a name, whatever its manifest is.
	for _, value := range notManifests() {
		named(t, []api.Fact{said(at(1, 1), api.FactBackup, value)}, "a")
	}
	b, a := of("b", backup(at(1, 1), "a")), backup(at(1, 2), "b")
	for _, l := range plainly.Orders([]api.Fact{b, a, of("b", backup(at(2, 1), "a")), of("c", said(at(1, 3), api.FactTag, "x")), b}) {
		named(t, l, "a", "b")
	}
}

// Names rise by their bytes, each is told once, and those alone of which there is a backup.
func TestNamesOfEachName(t *testing.T) {
	names := []string{"", "\x00", "A", "Z", "a", "a\x00", "a ", "aa", "ab", "b", "e\u0301", "z", strings.Repeat("z", 64), strings.Repeat("z", 65), "\x7f", "\x80", "\u00e9", "\xff", "\xff\x00"}
	var l, others []api.Fact
	for i, name := range names {
		l = append(l, of(name, backup(at(i, 1), "a")), of(name, backup(at(i, 2), "b")), of(name, backup(at(i, 1), "a")))
		for _, kind := range append(noKinds(), api.FactLabel, api.FactTag, api.FactKeep) {
			others = append(others, of(name+"?", said(at(i, 1), kind, "12345678")), of(name, said(at(i, 3), kind, "12345678")))
		}
	}
	slices.Reverse(l)
	named(t, l, names...)
	named(t, others)
	named(t, slices.Concat(others, l), names...)
	next := rand.New(rand.NewPCG(1, 2))
	for range 50 {
		next.Shuffle(len(l), func(i, j int) { l[i], l[j] = l[j], l[i] })
		named(t, l, names...)
		named(t, slices.Concat(l, others, l), names...)
	}
}

// Promise 20.1: All.

func TestAll(t *testing.T) {
	seesAll(t, nil)
	seesAll(t, []api.Fact{})
	seesAll(t, full()[2:])
	seesAll(t, full(), fullEntry())
	seesAll(t, full()[:1], bare("ab"))
	c := []api.Fact{of("c", backup(at(3, 1), "")), of("c", said(at(1, 1), api.FactLabel, "x"))}
	l := slices.Concat(ofAll("b", full()), ofAll("d", full()[2:]), full(), ofAll("", full()[2:]), c, ofAll("0", full()[4:]))
	want := []api.Entry{fullEntry(), entryOf("b", fullEntry()), {Name: "c", Manifest: madeOf(""), Label: "x", Dots: []api.Dot{at(3, 1)}}}
	seesAll(t, l, want...)
	slices.Reverse(l)
	seesAll(t, l, want...)
	seesAll(t, slices.Concat(l, l), want...)
}

// Names that begin alike, and the empty one, are names like others.
func TestAllOfEachName(t *testing.T) {
	names := []string{"", "\x00", "A", "a", "a\x00", "a ", "aa", "ab", "b", "\x80", "\u00e9", "\xff", "\xff\x00"}
	var l []api.Fact
	var want []api.Entry
	for _, name := range names {
		l = append(l, ofAll(name, full())...)
		want = append(want, entryOf(name, fullEntry()))
	}
	next := rand.New(rand.NewPCG(3, 4))
	for range 50 {
		next.Shuffle(len(l), func(i, j int) { l[i], l[j] = l[j], l[i] })
		seesAll(t, l, want...)
	}
}

// A backup whose manifest is none is there like others.
func TestAllOfWhatIsNoManifest(t *testing.T) {
	for _, value := range notManifests() {
		l := append(ofAll("b", full()), said(at(1, 1), api.FactBackup, value))
		seesAll(t, l, api.Entry{Name: "a", Dots: []api.Dot{at(1, 1)}}, entryOf("b", fullEntry()))
	}
}

// What is handed out may be changed, entry by entry.
func TestAllAnswersNewLists(t *testing.T) {
	l := slices.Concat(full(), ofAll("b", full()), ofAll("c", full()))
	all, again := view.All(l), view.All(l)
	for _, i := range []int{1, 0} {
		clear(all[i].Manifest.IDs)
		clear(all[i].Tags)
		clear(all[i].Keep)
		clear(all[i].Dots)
		// Room behind a list is no other list's either.
		all[i].Tags = append(all[i].Tags, "?")
		all[i].Dots = append(all[i].Dots, api.Dot{})
	}
	if !same(all[2], entryOf("c", fullEntry())) || !same(again[0], fullEntry()) || !same(again[1], entryOf("b", fullEntry())) {
		t.Errorf("entries share lists: %s, %s", shown(all[2]), shown(again))
	}
	seesAll(t, l, again...)
	names, ids := view.Names(l), view.IDs(l)
	clear(names)
	clear(ids)
	named(t, l, "a", "b", "c")
	asks(t, l, "abc")
}

// Promise 20.1: IDs.

func TestIDs(t *testing.T) {
	asks(t, nil, "")
	asks(t, []api.Fact{}, "")
	asks(t, []api.Fact{backup(at(1, 1), "")}, "")
	asks(t, []api.Fact{backup(at(1, 1), "a")}, "a")
	// Each once, rising, of a manifest too that tells one more than once.
	asks(t, []api.Fact{backup(at(1, 1), "cabbac0f9")}, "09abcf")
	// Those too of a manifest that was not said last.
	asks(t, full(), "abc")
	asks(t, full()[2:], "")
	for _, l := range plainly.Orders([]api.Fact{backup(at(1, 1), "ca"), of("b", backup(at(2, 1), "ba")), of("", backup(at(3, 1), "0")), backup(at(1, 2), "")}) {
		asks(t, l, "0abc")
		asks(t, slices.Concat(l, l), "0abc")
	}
}

// Manifests that are none are left out, each by itself.
func TestIDsOfWhatIsNoManifest(t *testing.T) {
	all := full()
	for i, value := range notManifests() {
		f := said(at(1, 10+i), api.FactBackup, value)
		asks(t, []api.Fact{f}, "")
		asks(t, append([]api.Fact{f}, full()...), "abc")
		all = append(all, f, of("b", f))
	}
	asks(t, all, "abc")
	slices.Reverse(all)
	asks(t, all, "abc")
}

// What is a manifest, but no backup's, asks for nothing.
func TestIDsOfBackupsAlone(t *testing.T) {
	l := full()
	for _, kind := range append(noKinds(), api.FactLabel, api.FactTag, api.FactKeep) {
		l = append(l, said(at(3, 1), kind, plainly.Manifest(madeOf("0123"))))
	}
	asks(t, l, "abc")
	asks(t, l[2:], "")
}

// Facts of any kind.

// plainLast is the last one that was said of this kind and name, if there is one.
func plainLast(l []api.Fact, kind int, name string) (last api.Fact, ok bool) {
	for _, f := range l {
		if f.Kind == kind && f.Name == name && (!ok || plainly.Ahead(last, f)) {
			last, ok = f, true
		}
	}
	return last, ok
}

// plainEntry is what promise 20.1 says that Entry answers, field by field.
func plainEntry(l []api.Fact, name string) (api.Entry, api.Errno) {
	last, ok := plainLast(l, api.FactBackup, name)
	if !ok {
		return api.Entry{}, api.ErrNone
	}
	e := api.Entry{Name: name}
	if m, err := chunk.Read(last.Value); err == api.OK {
		e.Manifest = m
	}
	label, _ := plainLast(l, api.FactLabel, name)
	e.Label = label.Value
	keeps, tags, dots := map[uint64]bool{}, map[string]bool{}, map[api.Dot]bool{}
	for _, f := range l {
		x, err := float.Read(f.Value)
		switch {
		case f.Name != name:
		case f.Kind == api.FactTag:
			tags[f.Value] = true
		case f.Kind == api.FactKeep && err == api.OK:
			keeps[float.Key(x)] = true
		case f.Kind == api.FactBackup:
			dots[f.Dot] = true
		}
	}
	e.Tags = slices.Sorted(maps.Keys(tags))
	for _, key := range slices.Sorted(maps.Keys(keeps)) {
		e.Keep = append(e.Keep, float.Of(key))
	}
	e.Dots = slices.SortedFunc(maps.Keys(dots), func(a, b api.Dot) int {
		if a.Replica != b.Replica {
			return a.Replica - b.Replica
		}
		return a.N - b.N
	})
	return e, api.OK
}

// plainAll is what it says that Names, All and IDs answer.
func plainAll(l []api.Fact) (names []string, all []api.Entry, ids []string) {
	there, asked := map[string]bool{}, map[string]bool{}
	for _, f := range l {
		if f.Kind != api.FactBackup {
			continue
		}
		there[f.Name] = true
		if m, err := chunk.Read(f.Value); err == api.OK {
			for _, id := range m.IDs {
				asked[id] = true
			}
		}
	}
	names = slices.Sorted(maps.Keys(there))
	for _, name := range names {
		e, _ := plainEntry(l, name)
		all = append(all, e)
	}
	return names, all, slices.Sorted(maps.Keys(asked))
}

// holds fails unless all calls answer what the promise says.
func holds(t *testing.T, l []api.Fact) {
	t.Helper()
	for _, name := range []string{"", "a", "b", "c"} {
		e, err := plainEntry(l, name)
		answers(t, l, name, e, err)
	}
	names, all, ids := plainAll(l)
	named(t, l, names...)
	seesAll(t, l, all...)
	lists(t, "IDs", view.IDs, l, ids...)
}

// wildValue is one of few that facts of this kind may have, and more.
func wildValue(next func(int) int, kind int) string {
	if next(12) == 0 {
		kind = next(6)
	}
	switch kind {
	case api.FactBackup:
		digits := "0123456789abcdef"[:next(17)]
		if next(6) == 0 {
			return plainly.Manifest(madeOf(digits))[next(2):]
		}
		return plainly.Manifest(madeOf(digits[next(len(digits)+1):]))
	case api.FactKeep:
		if next(6) == 0 {
			return bits(0x7ff8000000000000)[:7+next(2)]
		}
		return float.Put(numbers()[next(len(numbers()))])
	}
	return []string{"x", "y", "", "z\xff", "\x00"}[next(5)]
}

// wild are facts of any kind, but of few values each.
func wild(next func(int) int) []api.Fact {
	var l []api.Fact
	for range next(24) {
		f := api.Fact{Kind: next(6), Name: []string{"a", "a", "b", "b", "", "c"}[next(6)]}
		f.Dot, f.Stamp = at(next(3)-next(2), next(5)-next(2)), api.Stamp{Time: next(3) - next(2), Count: next(2), Replica: next(2)}
		f.Value = wildValue(next, f.Kind)
		l = append(l, f)
	}
	return l
}

func TestFactsOfAnyKind(t *testing.T) {
	next := rand.New(rand.NewPCG(5, 6))
	told := map[string]int{}
	for range 8000 {
		l := wild(next.IntN)
		holds(t, l)
		for _, e := range view.All(l) {
			for what, is := range map[string]bool{
				"IDs": len(e.Manifest.IDs) > 1, "no manifest": e.Manifest.Chunk == 0, "a label": e.Label != "",
				"tags": len(e.Tags) > 1, "keeps": len(e.Keep) > 1, "dots": len(e.Dots) > 1,
			} {
				if is {
					told[what]++
				}
			}
		}
	}
	for _, what := range []string{"IDs", "no manifest", "a label", "tags", "keeps", "dots"} {
		if told[what] < 500 {
			t.Errorf("only %d have %s", told[what], what)
		}
	}
}

// Of many facts it is not slow: each name is gone over by itself.
func TestManyFacts(t *testing.T) {
	var l []api.Fact
	var names []string
	var want []api.Entry
	for i := range 1 << 15 {
		name := fmt.Sprintf("%05d", i)
		for n, f := range full()[1:] {
			f.Dot, f.Stamp.Count = at(n, i+1), i
			l = append(l, of(name, f))
		}
		e := entryOf(name, fullEntry())
		e.Dots = []api.Dot{at(0, i+1)}
		names, want = append(names, name), append(want, e)
	}
	next := rand.New(rand.NewPCG(7, 8))
	next.Shuffle(len(l), func(i, j int) { l[i], l[j] = l[j], l[i] })
	named(t, l, names...)
	seesAll(t, l, want...)
	asks(t, l, "c")
	for i := 0; i < len(names); i += 1 << 12 {
		answers(t, l, names[i], want[i], api.OK)
	}
	// Many of one name, too.
	var tagged []api.Fact
	for i := range l {
		tagged = append(tagged, said(at(2, i), api.FactTag, "x"), backup(at(1, len(l)-i), "d"))
	}
	e, err := view.Entry(tagged, "a")
	if err != api.OK || len(e.Tags) != 1 || len(e.Dots) != len(l) || e.Dots[0] != at(1, 1) || e.Dots[len(l)-1] != at(1, len(l)) {
		t.Errorf("Entry of many facts = %s, error %d", shown(e), err)
	}
	seesAll(t, tagged, e)
	asks(t, tagged, "d")
}

// site is a replica, as far as its facts go.
type site struct {
	replica, n int
	l          []api.Fact
	c          api.Context
}

// does makes an operation's update at this time, applies it here, and there.
func (s *site) does(t *testing.T, time int, o api.Op, there ...*site) {
	t.Helper()
	s.n++
	manifest := ""
	if m, err := chunk.Manifest(o.Data, 2); o.Kind == api.OpCreate && err == api.OK {
		manifest = plainly.Manifest(m)
	}
	d, err := op.Make(s.l, o, at(s.replica, s.n), api.Stamp{Time: time, Replica: s.replica}, manifest)
	if err != api.OK {
		t.Fatalf("Make of %s where %s is = error %d", shown(o), shown(s.l), err)
	}
	s.l, s.c = kernel.Apply(s.l, s.c, d)
	for _, other := range there {
		other.l, other.c = kernel.Apply(other.l, other.c, d)
	}
}

// What operations made is seen, at each replica that has it.
func TestBackupsOfOperations(t *testing.T) {
	create := func(data string) api.Op { return api.Op{Kind: api.OpCreate, Name: "a", Data: data} }
	asked := func(kind int, value string) api.Op { return api.Op{Kind: kind, Name: "a", Value: value} }
	of := func(data string) api.Manifest { m, _ := chunk.Manifest(data, 2); return m }
	// Two backups of one name, made apart: the later one's bytes are seen, and both dots.
	here, there := &site{replica: 1}, &site{replica: 2}
	here.does(t, 7, create("later"))
	there.does(t, 6, create("early"), here)
	sees(t, there.l, api.Entry{Name: "a", Manifest: of("early"), Dots: []api.Dot{at(2, 1)}})
	entry := api.Entry{Name: "a", Manifest: of("later"), Dots: []api.Dot{at(1, 1), at(2, 1)}}
	sees(t, here.l, entry)
	lists(t, "IDs", view.IDs, here.l, slices.Sorted(slices.Values(slices.Concat(of("later").IDs, of("early").IDs)))...)
	// What else is said of it.
	here.does(t, 8, asked(api.OpTag, "x"), there)
	here.does(t, 9, asked(api.OpTag, "w"))
	here.does(t, 10, asked(api.OpLabel, "first"))
	here.does(t, 11, asked(api.OpLabel, "second"))
	here.does(t, 12, api.Op{Kind: api.OpKeep, Name: "a", Keep: math.NaN()})
	entry.Tags, entry.Label, entry.Keep = []string{"w", "x"}, "second", numbers()[13:]
	sees(t, here.l, entry)
	// Keeps that were said apart are both seen.
	there.does(t, 1, api.Op{Kind: api.OpKeep, Name: "a", Keep: 3}, here)
	entry.Keep = []float64{3, numbers()[13]}
	sees(t, here.l, entry)
	seesAll(t, here.l, entry)
	here.does(t, 13, asked(api.OpUntag, "x"))
	entry.Tags = []string{"w"}
	sees(t, here.l, entry)
	// A label that comes from where the backup is there yet says nothing of it alone.
	here.does(t, 14, asked(api.OpDelete, ""))
	there.does(t, 15, asked(api.OpLabel, "late"), here)
	seesNone(t, here.l, "a")
	named(t, here.l)
	seesAll(t, here.l)
	asks(t, here.l, "")
	sees(t, there.l, api.Entry{Name: "a", Manifest: of("early"), Label: "late", Tags: []string{"x"}, Keep: []float64{3}, Dots: []api.Dot{at(2, 1)}})
}

func FuzzPlainWords(f *testing.F) {
	f.Add("")
	f.Add("a backup, and what is said of it")
	f.Add("\x09\x01\x00\x01\x00\x02\x00\x01\x00\x01\x00\x05\x05\x02\x00\x01\x00\x03\x00\x01\x00\x01\x00\x01\x01")
	f.Fuzz(func(t *testing.T, s string) {
		holds(t, wild(plainly.Choices(&s)))
	})
}
