package op_test

import (
	"math/rand/v2"
	"slices"
	"strings"
	"testing"

	"almonry/api"
	"almonry/delta"
	"almonry/float"
	"almonry/kernel"
	"almonry/op"
	"almonry/plainly"
	"almonry/register"
)

// made is what an operation comes to: replica 3's ninth update, with this fact alone if it has a kind.
func made(kind int, value string, gone ...api.Dot) api.Delta {
	d := api.Delta{Dot: at(3, 9), Stamp: api.Stamp{Time: 8, Count: 2, Replica: 3}, Gone: gone}
	if kind != 0 {
		d.Facts = []api.Fact{{Dot: d.Dot, Stamp: d.Stamp, Kind: kind, Name: "a", Value: value}}
	}
	return d
}

// same tells whether two updates are the same; a list that is empty may be nil.
func same(a, b api.Delta) bool {
	return a.Dot == b.Dot && a.Stamp == b.Stamp && slices.Equal(a.Facts, b.Facts) && slices.Equal(a.Gone, b.Gone)
}

// makes fails unless Make answers this update, made where these facts are, and leaves what is handed in.
func makes(t *testing.T, l []api.Fact, o api.Op, manifest string, want api.Delta) {
	t.Helper()
	answers(t, l, o, api.Delta{Dot: want.Dot, Stamp: want.Stamp}, manifest, want, api.OK)
}

// notMade fails unless Make answers this error, and nothing beside it, of an update with this Dot and Stamp.
func notMade(t *testing.T, l []api.Fact, o api.Op, bare api.Delta, manifest string, want api.Errno) {
	t.Helper()
	answers(t, l, o, bare, manifest, api.Delta{}, want)
}

// answers fails unless Make answers this update and this error.
func answers(t *testing.T, l []api.Fact, o api.Op, bare api.Delta, manifest string, want api.Delta, wantErr api.Errno) {
	t.Helper()
	kept := slices.Clone(l)
	if got, err := op.Make(l, o, bare.Dot, bare.Stamp, manifest); !same(got, want) || err != wantErr {
		t.Errorf("Make of %d facts, %s, %s, %s, a manifest of %d bytes = %s, error %d; want %s, error %d",
			len(l), shown(l), shown(o), shown(bare), len(manifest), shown(got), err, shown(want), wantErr)
	}
	if !slices.Equal(l, kept) {
		t.Errorf("Make changed what was handed in: %s; want %s", shown(l), shown(kept))
	}
}

// full is a store's facts: two backups a and b, each with two tags, a label and a keep, some of which were said twice, apart.
func full() []api.Fact {
	a := []api.Fact{
		backup(),
		said(at(2, 6), api.FactLabel, "of a day"), said(at(1, 8), api.FactLabel, "of a week"),
		said(at(2, 2), api.FactTag, "x"), said(at(1, 5), api.FactTag, "y"), said(at(1, 4), api.FactTag, "x"),
		said(at(0, 9), api.FactKeep, float.Put(1)), said(at(0, 3), api.FactKeep, float.Put(1)),
	}
	l := slices.Clone(a)
	for i, f := range a {
		l = append(l, of("b", said(at(4, i+1), f.Kind, f.Value)))
	}
	return l
}

// Promise 19.2: Make.

func TestMakeOfCreate(t *testing.T) {
	create := asked(api.OpCreate)
	for _, manifest := range []string{plainly.ManifestOf(0, 4), plainly.ManifestOf(5, 2), plainly.ManifestOf(32768, 131)} {
		makes(t, nil, create, manifest, made(api.FactBackup, manifest))
		makes(t, []api.Fact{of("b", backup())}, create, manifest, made(api.FactBackup, manifest))
		// What was left of another backup of this name is left as it is.
		makes(t, full()[1:], create, manifest, made(api.FactBackup, manifest))
		notMade(t, full(), create, made(0, ""), manifest, api.ErrExists)
	}
	// The manifest is taken as it is handed in, whatever the Data is.
	makes(t, nil, api.Op{Kind: api.OpCreate, Name: "a"}, plainly.ManifestOf(5, 2), made(api.FactBackup, plainly.ManifestOf(5, 2)))
}

func TestMakeOfTag(t *testing.T) {
	makes(t, []api.Fact{backup()}, asked(api.OpTag), "", made(api.FactTag, "x"))
	makes(t, full(), asked(api.OpTag), "", made(api.FactTag, "x", at(1, 4), at(2, 2)))
	makes(t, full(), tagging(api.OpTag, "y"), "", made(api.FactTag, "y", at(1, 5)))
	makes(t, full(), tagging(api.OpTag, "z"), "", made(api.FactTag, "z"))
	makes(t, full(), tagging(api.OpTag, "of a day"), "", made(api.FactTag, "of a day"))
}

func TestMakeOfUntag(t *testing.T) {
	makes(t, full(), asked(api.OpUntag), "", made(0, "", at(1, 4), at(2, 2)))
	makes(t, full(), tagging(api.OpUntag, "y"), "", made(0, "", at(1, 5)))
	notMade(t, full(), tagging(api.OpUntag, "z"), made(0, ""), "", api.ErrNone)
	notMade(t, full(), tagging(api.OpUntag, "of a day"), made(0, ""), "", api.ErrNone)
}

func TestMakeOfLabel(t *testing.T) {
	makes(t, []api.Fact{backup()}, asked(api.OpLabel), "", made(api.FactLabel, "x"))
	for _, value := range []string{"", "x", "of a day", strings.Repeat("\xff", 256)} {
		makes(t, full(), tagging(api.OpLabel, value), "", made(api.FactLabel, value, at(1, 8), at(2, 6)))
	}
}

func TestMakeOfKeep(t *testing.T) {
	keep := func(x float64) api.Op { return api.Op{Kind: api.OpKeep, Name: "a", Keep: x} }
	makes(t, []api.Fact{backup()}, keep(1), "", made(api.FactKeep, "\x3f\xf0\x00\x00\x00\x00\x00\x00"))
	makes(t, []api.Fact{backup()}, keep(0), "", made(api.FactKeep, "\x00\x00\x00\x00\x00\x00\x00\x00"))
	makes(t, []api.Fact{backup()}, keep(keeps()[1]), "", made(api.FactKeep, "\x80\x00\x00\x00\x00\x00\x00\x00"))
	for _, x := range keeps() {
		makes(t, full(), keep(x), "", made(api.FactKeep, float.Put(x), at(0, 3), at(0, 9)))
		if x != x {
			makes(t, full(), keep(x), "", made(api.FactKeep, "\x7f\xf8\x00\x00\x00\x00\x00\x01", at(0, 3), at(0, 9)))
		}
	}
}

func TestMakeOfDelete(t *testing.T) {
	makes(t, []api.Fact{backup()}, asked(api.OpDelete), "", made(0, "", at(1, 1)))
	all := []api.Dot{at(0, 3), at(0, 9), at(1, 1), at(1, 4), at(1, 5), at(1, 8), at(2, 2), at(2, 6)}
	makes(t, full(), asked(api.OpDelete), "", made(0, "", all...))
	// Each of two backups of one name goes, and what is of no kind.
	l := facts(full(), said(at(5, 1), api.FactBackup, plainly.ManifestOf(0, 1)), said(at(5, 2), 0, ""), said(at(5, 3), 5, "x"))
	makes(t, l, asked(api.OpDelete), "", made(0, "", append(all, at(5, 1), at(5, 2), at(5, 3))...))
}

// Whichever order the facts stand in, and however often, Gone has each dot once, rising.
func TestMakeListsEachGoneOnce(t *testing.T) {
	next := rand.New(rand.NewPCG(1, 2))
	for _, o := range each()[1:] {
		want, err := op.Make(full(), o, at(3, 9), api.Stamp{Time: 8, Count: 2, Replica: 3}, "")
		if err != api.OK {
			t.Fatalf("Make of kind %d = error %d", o.Kind, err)
		}
		for range 50 {
			l := slices.Concat(full(), full(), full()[:5])
			next.Shuffle(len(l), func(i, j int) { l[i], l[j] = l[j], l[i] })
			makes(t, l, o, "", want)
		}
	}
	// An update that said more than one thing of a backup goes once.
	l := []api.Fact{backup(), said(at(1, 1), api.FactTag, "x"), said(at(1, 1), api.FactTag, "y"), said(at(1, 1), api.FactLabel, "x")}
	makes(t, l, asked(api.OpTag), "", made(api.FactTag, "x", at(1, 1)))
	makes(t, l, asked(api.OpUntag), "", made(0, "", at(1, 1)))
	makes(t, l, asked(api.OpLabel), "", made(api.FactLabel, "x", at(1, 1)))
	makes(t, l, asked(api.OpDelete), "", made(0, "", at(1, 1)))
}

func TestMakeTakesNotItselfBack(t *testing.T) {
	own := at(3, 9)
	l := facts(full(), said(own, api.FactTag, "x"), said(own, api.FactLabel, "x"), said(own, api.FactKeep, "12345678"), said(own, api.FactBackup, ""))
	for _, o := range each()[1:] {
		want, _ := op.Make(full(), o, own, made(0, "").Stamp, "")
		makes(t, l, o, "", want)
	}
	// Where there is nothing else, nothing is taken back.
	makes(t, []api.Fact{said(own, api.FactBackup, "")}, asked(api.OpDelete), "", made(0, ""))
	makes(t, []api.Fact{backup(), said(own, api.FactTag, "x")}, asked(api.OpUntag), "", made(0, ""))
	// Those of its number, or of its replica, are others.
	makes(t, []api.Fact{backup(), said(at(3, 8), api.FactTag, "x"), said(at(2, 9), api.FactTag, "x"), said(own, api.FactTag, "x")},
		asked(api.OpUntag), "", made(0, "", at(2, 9), at(3, 8)))
}

// The manifest of what creates nothing is not asked.
func TestMakeAsksAManifestOfCreateAlone(t *testing.T) {
	for _, c := range []struct {
		manifest string
		want     api.Errno
	}{
		{"", api.ErrCut},
		{"\x80", api.ErrCut},
		{"\x00\x00\x00", api.ErrRange},
		{"\x00\x04\x00\x00", api.ErrForm},
		{"\x01\x04\x00", api.ErrForm},
		{"\x00\x04\x81\x20", api.ErrLong},
		{plainly.ManifestOf(252, 1), api.ErrLong},
		{strings.Repeat("\x00", 16385), api.ErrLong},
	} {
		notMade(t, nil, asked(api.OpCreate), made(0, ""), c.manifest, c.want)
		for _, o := range each()[1:] {
			want, err := op.Make(full(), o, at(3, 9), made(0, "").Stamp, "")
			answers(t, full(), o, made(0, ""), c.manifest, want, err)
		}
	}
}

// wrongHeads are Dots and Stamps that layer 18 refuses, and with which error.
func wrongHeads() map[api.Errno][]api.Delta {
	heads := map[api.Errno][]api.Delta{api.ErrForm: {{Dot: at(3, 9), Stamp: api.Stamp{Replica: 2}}, {Dot: at(0, 1), Stamp: api.Stamp{Replica: 15}}}}
	for _, d := range []api.Dot{{}, at(3, 0), at(3, -1), at(-1, 9), at(16, 9), at(3, api.MaxCount+1)} {
		heads[api.ErrRange] = append(heads[api.ErrRange], api.Delta{Dot: d, Stamp: api.Stamp{Replica: d.Replica}})
	}
	for _, s := range []api.Stamp{{Time: -1, Replica: 3}, {Count: -1, Replica: 3}, {Time: api.MaxTime + 1, Replica: 3}, {Count: api.MaxTime + 1, Replica: 3}, {Replica: 16}} {
		heads[api.ErrRange] = append(heads[api.ErrRange], api.Delta{Dot: at(3, 9), Stamp: s})
	}
	return heads
}

func TestMakeAsksTheDotAndTheStamp(t *testing.T) {
	for want, heads := range wrongHeads() {
		for _, bare := range heads {
			notMade(t, nil, asked(api.OpCreate), bare, plainly.ManifestOf(5, 2), want)
			// They come ahead of what is wrong with the manifest, and with what is taken back.
			notMade(t, nil, asked(api.OpCreate), bare, "", want)
			for _, o := range each()[1:] {
				notMade(t, full(), o, bare, "", want)
				notMade(t, facts(full(), said(at(16, 0), api.FactTag, "x")), o, bare, "", want)
			}
		}
	}
	// They are taken as they are handed in, at their edges too, whatever the facts' are.
	for _, d := range []api.Dot{at(0, 1), at(15, 1), at(0, api.MaxCount), at(15, api.MaxCount)} {
		for _, s := range []api.Stamp{{}, {Time: api.MaxTime}, {Count: api.MaxTime}, {Time: api.MaxTime, Count: api.MaxTime}} {
			s.Replica = d.Replica
			want := api.Delta{Dot: d, Stamp: s, Gone: []api.Dot{at(1, 1)}}
			makes(t, []api.Fact{backup()}, asked(api.OpDelete), "", want)
			want.Facts, want.Gone = []api.Fact{{Dot: d, Stamp: s, Kind: api.FactTag, Name: "a", Value: "x"}}, nil
			makes(t, []api.Fact{backup()}, asked(api.OpTag), "", want)
		}
	}
}

func TestMakeTellsMaysErrorFirst(t *testing.T) {
	for _, heads := range wrongHeads() {
		for _, bare := range heads {
			notMade(t, nil, api.Op{}, bare, "", api.ErrArg)
			notMade(t, full(), asked(api.OpCreate), bare, "", api.ErrExists)
			notMade(t, nil, asked(api.OpDelete), bare, "", api.ErrNone)
			notMade(t, full(), tagging(api.OpUntag, "z"), bare, "", api.ErrNone)
			notMade(t, facts(tags(64), backup()), asked(api.OpTag), bare, "", api.ErrFull)
		}
	}
	for _, o := range mixed() {
		if want := plainMay(full(), o); want != api.OK {
			notMade(t, full(), o, made(0, ""), "", want)
		}
	}
}

// No update takes more than 256 back, or what is no name of an update.
func TestMakeTakesNotTooManyBack(t *testing.T) {
	for _, c := range []struct {
		o     api.Op
		says  int
		value string
		takes int
	}{
		{asked(api.OpTag), api.FactTag, "x", api.FactTag},
		{asked(api.OpUntag), 0, "", api.FactTag},
		{asked(api.OpLabel), api.FactLabel, "x", api.FactLabel},
		{asked(api.OpKeep), api.FactKeep, float.Put(1.5), api.FactKeep},
		{asked(api.OpDelete), 0, "", api.FactTag},
	} {
		l := []api.Fact{said(at(0, 1), api.FactBackup, "")}
		var gone []api.Dot
		if c.o.Kind == api.OpDelete {
			gone = append(gone, at(0, 1))
		}
		for n := 2; len(gone) < 256; n++ {
			l, gone = append(l, said(at(0, n), c.takes, "x")), append(gone, at(0, n))
		}
		makes(t, l, c.o, "", made(c.says, c.value, gone...))
		makes(t, facts(l, l[1:]...), c.o, "", made(c.says, c.value, gone...))
		makes(t, facts(l, said(at(3, 9), c.takes, "x")), c.o, "", made(c.says, c.value, gone...))
		notMade(t, facts(l, said(at(3, 8), c.takes, "x")), c.o, made(0, ""), "", api.ErrLong)
		// That one of them is no name of an update is told ahead of it.
		for _, wrong := range []api.Dot{{}, at(16, 1), at(-1, 1), at(1, api.MaxCount+1)} {
			notMade(t, facts(l, said(wrong, c.takes, "x")), c.o, made(0, ""), "", api.ErrRange)
			makes(t, facts(l, of("b", said(wrong, c.takes, "x"))), c.o, "", made(c.says, c.value, gone...))
		}
	}
}

// An update that was made is nobody else's.
func TestMakeAnswersNewLists(t *testing.T) {
	l := full()
	a, _ := op.Make(l, asked(api.OpTag), at(3, 9), made(0, "").Stamp, "")
	b, _ := op.Make(l, asked(api.OpTag), at(3, 9), made(0, "").Stamp, "")
	clear(a.Facts)
	clear(a.Gone)
	if want := made(api.FactTag, "x", at(1, 4), at(2, 2)); !same(b, want) {
		t.Errorf("Make = %s behind a change of other lists; want %s", shown(b), shown(want))
	}
	makes(t, l, asked(api.OpTag), "", b)
	if !slices.Equal(l, full()) {
		t.Errorf("facts are %s behind a change of what was made of them", shown(l))
	}
}

// plainMake is what promise 19.2 says that Make answers, kind by kind.
func plainMake(l []api.Fact, o api.Op, bare api.Delta, manifest string) (api.Delta, api.Errno) {
	if err := plainMay(l, o); err != api.OK {
		return api.Delta{}, err
	}
	value := map[int]string{api.OpCreate: manifest, api.OpTag: o.Value, api.OpLabel: o.Value, api.OpKeep: float.Put(o.Keep)}[o.Kind]
	says := map[int]int{api.OpCreate: api.FactBackup, api.OpTag: api.FactTag, api.OpLabel: api.FactLabel, api.OpKeep: api.FactKeep}[o.Kind]
	takes := map[int]int{api.OpTag: api.FactTag, api.OpUntag: api.FactTag, api.OpLabel: api.FactLabel, api.OpKeep: api.FactKeep}[o.Kind]
	if says != 0 {
		bare.Facts = []api.Fact{{Dot: bare.Dot, Stamp: bare.Stamp, Kind: says, Name: o.Name, Value: value}}
	}
	for _, f := range l {
		named := f.Name == o.Name && (o.Kind == api.OpDelete || takes != 0 && f.Kind == takes)
		if named && (takes != api.FactTag || f.Value == o.Value) && f.Dot != bare.Dot && !slices.Contains(bare.Gone, f.Dot) {
			bare.Gone = append(bare.Gone, f.Dot)
		}
	}
	slices.SortFunc(bare.Gone, func(a, b api.Dot) int {
		if a.Replica != b.Replica {
			return a.Replica - b.Replica
		}
		return a.N - b.N
	})
	if err := delta.Check(bare); err != api.OK {
		return api.Delta{}, err
	}
	return bare, api.OK
}

// holds fails unless May and Make answer what the promise says.
func holds(t *testing.T, l []api.Fact, o api.Op, bare api.Delta, manifest string) {
	t.Helper()
	mays(t, l, o, plainMay(l, o))
	want, err := plainMake(l, o, bare, manifest)
	answers(t, l, o, bare, manifest, want, err)
}

// wild are facts, an operation, a Dot, a Stamp and a manifest of any kind, but of few each.
func wild(next func(int) int) (l []api.Fact, o api.Op, bare api.Delta, manifest string) {
	name := func() string { return []string{"a", "a", "a", "b", ""}[next(5)] }
	value := func() string { return []string{"x", "y", "", "12345678"}[next(4)] }
	bare.Dot, bare.Stamp = at(next(4), next(5)), api.Stamp{Time: next(3) - next(2), Replica: next(4)}
	if next(8) > 0 {
		bare.Stamp.Replica = bare.Dot.Replica
	}
	o = api.Op{Kind: next(8), Name: name(), Value: value()}
	if !hasValue(o.Kind) && next(8) > 0 {
		o.Value = ""
	}
	if o.Kind == api.OpKeep || next(8) == 0 {
		o.Keep = keeps()[next(len(keeps()))]
	}
	if o.Kind == api.OpCreate || next(8) == 0 {
		o.Data = value()
	}
	manifest = []string{plainly.ManifestOf(5, 2), plainly.ManifestOf(0, 1), "", "x"}[next(4)]
	for range next(16) {
		l = append(l, of(name(), said(at(next(4), next(8)), next(6), value())))
	}
	return l, o, bare, manifest
}

func TestMakeOfAny(t *testing.T) {
	next := rand.New(rand.NewPCG(3, 4))
	told := map[api.Errno]int{}
	for range 60000 {
		l, o, bare, manifest := wild(next.IntN)
		holds(t, l, o, bare, manifest)
		_, err := op.Make(l, o, bare.Dot, bare.Stamp, manifest)
		told[err]++
	}
	for _, err := range []api.Errno{api.OK, api.ErrArg, api.ErrRange, api.ErrCut, api.ErrForm, api.ErrNone, api.ErrExists, api.ErrName} {
		if told[err] < 50 {
			t.Errorf("only %d have error %d", told[err], err)
		}
	}
}

// Of many facts it is not slow.
func TestMakeOfManyFacts(t *testing.T) {
	l := []api.Fact{backup()}
	for i := range 1 << 18 {
		l = append(l, of("b", said(at(1, i+2), api.FactTag, "x")))
	}
	for _, o := range each()[3:] {
		want, err := plainMake([]api.Fact{backup()}, o, made(0, ""), "")
		answers(t, l, o, made(0, ""), "", want, err)
	}
	l = append(l, tags(64)...)
	for _, f := range tags(64) {
		makes(t, l, tagging(api.OpTag, f.Value), "", made(api.FactTag, f.Value, f.Dot))
	}
	notMade(t, l, asked(api.OpTag), made(0, ""), "", api.ErrFull)
	o := asked(api.OpDelete)
	o.Name = "b"
	l = append(l, of("b", said(at(5, 1), api.FactBackup, "")))
	notMade(t, l, o, made(0, ""), "", api.ErrLong)
}

// site is a replica, as far as operations go: what it has, and how many updates it made.
type site struct {
	replica, n int
	l          []api.Fact
	c          api.Context
}

// takes applies an update.
func (s *site) takes(d api.Delta) { s.l, s.c = kernel.Apply(s.l, s.c, d) }

// does makes an operation's update, and applies it.
func (s *site) does(t *testing.T, o api.Op) api.Delta {
	t.Helper()
	s.n++
	d, err := op.Make(s.l, o, at(s.replica, s.n), api.Stamp{Time: s.n, Replica: s.replica}, plainly.ManifestOf(5, 2))
	if err != api.OK {
		t.Fatalf("Make of %s where %s is = error %d", shown(o), shown(s.l), err)
	}
	s.takes(d)
	return d
}

// says fails unless the values of a kind are these, each once.
func (s *site) says(t *testing.T, kind int, want ...string) {
	t.Helper()
	if got := register.Elements(register.Of(s.l, kind, "a")); !slices.Equal(got, want) {
		t.Errorf("the values of kind %d are %q; want %q", kind, got, want)
	}
}

// What is said last stands alone, and what is taken back is gone.
func TestOperationsOneBehindTheOther(t *testing.T) {
	s := site{}
	manifest := plainly.ManifestOf(5, 2)
	for _, step := range []struct {
		o                          api.Op
		backups, labels, tags, all []string
	}{
		{asked(api.OpCreate), []string{manifest}, nil, nil, []string{manifest}},
		{asked(api.OpTag), []string{manifest}, nil, []string{"x"}, []string{manifest, "x"}},
		{tagging(api.OpTag, "y"), []string{manifest}, nil, []string{"x", "y"}, []string{manifest, "x", "y"}},
		{asked(api.OpTag), []string{manifest}, nil, []string{"x", "y"}, []string{manifest, "x", "y"}},
		{tagging(api.OpLabel, "l"), []string{manifest}, []string{"l"}, []string{"x", "y"}, []string{manifest, "l", "x", "y"}},
		{tagging(api.OpLabel, "m"), []string{manifest}, []string{"m"}, []string{"x", "y"}, []string{manifest, "m", "x", "y"}},
		{asked(api.OpUntag), []string{manifest}, []string{"m"}, []string{"y"}, []string{manifest, "m", "y"}},
		{tagging(api.OpLabel, ""), []string{manifest}, []string{""}, []string{"y"}, []string{"", manifest, "y"}},
		{api.Op{Kind: api.OpKeep, Name: "a", Keep: 1}, []string{manifest}, []string{""}, []string{"y"}, []string{"", manifest, float.Put(1), "y"}},
		{api.Op{Kind: api.OpKeep, Name: "a", Keep: 2}, []string{manifest}, []string{""}, []string{"y"}, []string{"", manifest, float.Put(2), "y"}},
		{asked(api.OpDelete), nil, nil, nil, nil},
		{asked(api.OpCreate), []string{manifest}, nil, nil, []string{manifest}},
	} {
		s.does(t, step.o)
		s.says(t, api.FactBackup, step.backups...)
		s.says(t, api.FactLabel, step.labels...)
		s.says(t, api.FactTag, step.tags...)
		s.says(t, 0, step.all...)
	}
}

// What was said apart stays, as nobody knew of it who took it back.
func TestOperationsApart(t *testing.T) {
	for _, c := range []struct {
		here, there     api.Op
		backups, labels int
		tags            []string
	}{
		{asked(api.OpTag), asked(api.OpUntag), 1, 0, []string{"x"}},
		{asked(api.OpTag), asked(api.OpTag), 1, 0, []string{"x"}},
		{asked(api.OpUntag), asked(api.OpUntag), 1, 0, nil},
		{tagging(api.OpTag, "y"), asked(api.OpUntag), 1, 0, []string{"y"}},
		{asked(api.OpDelete), tagging(api.OpLabel, "l"), 0, 1, nil},
		{asked(api.OpDelete), asked(api.OpDelete), 0, 0, nil},
		{tagging(api.OpLabel, "l"), tagging(api.OpLabel, "m"), 1, 2, []string{"x"}},
	} {
		first := site{replica: 1}
		deltas := []api.Delta{first.does(t, asked(api.OpCreate)), first.does(t, asked(api.OpTag))}
		here, there := site{replica: 2}, site{replica: 3}
		for _, d := range deltas {
			here.takes(d)
			there.takes(d)
		}
		d, e := here.does(t, c.here), there.does(t, c.there)
		here.takes(e)
		there.takes(d)
		if !slices.Equal(here.l, there.l) {
			t.Errorf("%s here, %s there: %s and %s", shown(c.here), shown(c.there), shown(here.l), shown(there.l))
		}
		here.says(t, api.FactTag, c.tags...)
		backups, labels := register.Of(here.l, api.FactBackup, "a"), register.Of(here.l, api.FactLabel, "a")
		if len(backups) != c.backups || len(labels) != c.labels {
			t.Errorf("%s here, %s there: %d backups, %d labels; want %d, %d", shown(c.here), shown(c.there), len(backups), len(labels), c.backups, c.labels)
		}
	}
	// Two backups of one name, made apart, are both there; one that deletes knows both.
	here, there := site{replica: 2}, site{replica: 3}
	d := here.does(t, asked(api.OpCreate))
	there.does(t, asked(api.OpCreate))
	there.takes(d)
	if l := register.Of(there.l, api.FactBackup, "a"); len(l) != 2 {
		t.Errorf("%d backups, made apart", len(l))
	}
	if e := there.does(t, asked(api.OpDelete)); !slices.Equal(e.Gone, []api.Dot{at(2, 1), at(3, 1)}) || len(there.l) != 0 {
		t.Errorf("Delete takes %v back, and %s is left", e.Gone, shown(there.l))
	}
}

func FuzzPlainWords(f *testing.F) {
	f.Add("")
	f.Add("a backup, and what is said of it")
	f.Add("\x03\x02\x01\x00\x01\x02\x00\x00\x00\x00\x05\x00\x01\x01\x01\x00\x00\x02\x03\x03\x00")
	f.Fuzz(func(t *testing.T, s string) {
		next := plainly.Choices(&s)
		l, o, bare, manifest := wild(next)
		holds(t, l, o, bare, manifest)
	})
}
