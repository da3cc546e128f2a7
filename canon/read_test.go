package canon_test

import (
	"maps"
	"slices"
	"strings"
	"testing"

	"almonry/api"
	"almonry/canon"
	"almonry/causal"
	"almonry/fact"
	"almonry/kernel"
	"almonry/plainly"
)

// notRead fails unless Read answers this error, and nothing beside it.
func notRead(t *testing.T, s string, want api.Errno) {
	t.Helper()
	l, c, err := canon.Read(s)
	if got := (store{l, c}); !same(got, store{}) || err != want {
		t.Errorf("Read of %d bytes, %.100q, = %s, error %d; want error %d alone", len(s), s, shown(got), err, want)
	}
}

// Promise 21.1: Read of what was not put.

func TestReadOfLayerOnesErrors(t *testing.T) {
	none := plainPut(store{})
	for s, want := range plainly.WrongNumbers() {
		notRead(t, s, want)
		notRead(t, s+none, want)
		notRead(t, "\x01\x00"+s, want)
		notRead(t, "\x01\x00"+s+none, want)
		// Whatever the first text is.
		notRead(t, "\x00"+s, want)
		notRead(t, "\x02\x81\x20"+s+"\x00", want)
	}
	for _, c := range []struct {
		s    string
		want api.Errno
	}{
		{"", api.ErrCut},
		{"\x80", api.ErrCut},
		{"\x01", api.ErrCut},
		{"\x01\x00", api.ErrCut},
		{"\x01\x00\x80", api.ErrCut},
		{"\x01\x00\xff\xff\xff\xff\xff\xff\xff\xff\xff", api.ErrCut},
		{"\x80\x80\x04", api.ErrCut},
		{"\x81\x80\x04", api.ErrLong},
		{"\x81\x80\x04\x81\x00", api.ErrLong},
		{"\x01\x00\x80\x80\x04", api.ErrCut},
		{"\x01\x00\x81\x80\x04", api.ErrLong},
		{"\x00\x81\x80\x04", api.ErrLong},
	} {
		notRead(t, c.s, c.want)
	}
	long := strings.Repeat("\x00", 65537)
	notRead(t, lay(long, plainly.Context(api.Context{})), api.ErrLong)
	notRead(t, lay("\x00", long), api.ErrLong)
	notRead(t, lay(long[1:], plainly.Context(api.Context{})), api.ErrForm)
	notRead(t, lay("\x00", long[1:]), api.ErrForm)
}

func TestReadOfCutAndLeftBytes(t *testing.T) {
	for _, s := range []store{{}, one(), full(), tags(20), beyond(60)} {
		bytes := plainPut(s)
		for size := range bytes {
			notRead(t, bytes[:size], api.ErrCut)
		}
		for _, behind := range []string{"\x00", "x", "\x80", "\xff", plainly.Text(""), bytes} {
			notRead(t, bytes+behind, api.ErrForm)
			// Inside a text it is 15's, or 13's, to refuse it.
			notRead(t, lay(plainly.Facts(s.l...)+behind, plainly.Context(s.c)), api.ErrForm)
			notRead(t, lay(plainly.Facts(s.l...), plainly.Context(s.c)+behind), api.ErrForm)
		}
	}
}

// wrongFacts are bytes that 15's Read refuses, each with its error.
func wrongFacts() map[string]api.Errno {
	l := full().l
	whole := plainly.Facts(l...)
	wrong := map[string]api.Errno{
		"":                                          api.ErrCut,
		"\x01":                                      api.ErrCut,
		whole[:len(whole)-1]:                        api.ErrCut,
		whole + "\x00":                              api.ErrForm,
		"\x80\x00":                                  api.ErrForm,
		"\x81\x20":                                  api.ErrLong,
		plainly.Number(1 << 53):                     api.ErrLong,
		plainly.Facts(tags(4097).l...):              api.ErrLong,
		plainly.Facts(l[1], l[0]):                   api.ErrForm,
		plainly.Facts(l[0], l[0]):                   api.ErrForm,
		plainly.Facts(tag(at(0, 0), "x")):           api.ErrRange,
		plainly.Facts(tag(at(16, 1), "x")):          api.ErrRange,
		plainly.Facts(said(at(0, 1), 5, "x")):       api.ErrArg,
		plainly.Facts(tag(at(0, 1), "")):            api.ErrName,
		plainly.Facts(named(l[3], "")):              api.ErrName,
		plainly.Facts(said(at(0, 1), 1, "\x80")):    api.ErrCut,
		plainly.Facts(said(at(0, 1), 4, "1234567")): api.ErrForm,
	}
	for s, want := range plainly.WrongNumbers() {
		wrong[s] = want
	}
	return wrong
}

// wrongContexts are bytes that 13's Read refuses, each with its error.
func wrongContexts() map[string]api.Errno {
	whole := plainly.Context(full().c)
	wrong := map[string]api.Errno{
		"":                   api.ErrCut,
		"\x00":               api.ErrCut,
		whole[:len(whole)-1]: api.ErrCut,
		whole + "\x00":       api.ErrForm,
		strings.Repeat("\x00", 16) + "\x81\x80\x04":             api.ErrLong,
		plainly.Context(beyond(4097).c):                         api.ErrLong,
		plainly.Context(of(api.Vector{3: api.MaxCount + 1})):    api.ErrRange,
		plainly.Context(of(api.Vector{}, at(16, 3))):            api.ErrRange,
		plainly.Context(of(api.Vector{}, at(0, 0))):             api.ErrRange,
		plainly.Context(of(api.Vector{}, at(0, 1))):             api.ErrForm,
		plainly.Context(of(api.Vector{5}, at(0, 5))):            api.ErrForm,
		plainly.Context(of(api.Vector{}, at(0, 4), at(0, 3))):   api.ErrForm,
		strings.Repeat("\x00", 16) + plainly.Text("\x81\x20"):   api.ErrLong,
		strings.Repeat("\x00", 16) + plainly.Text("\x01\x01"):   api.ErrCut,
		strings.Repeat("\x00", 16) + plainly.Text("\x00\x00"):   api.ErrForm,
		strings.Repeat("\x00", 16) + plainly.Text(""):           api.ErrCut,
		strings.Repeat("\x00", 15) + "\x80\x00" + "\x01\x00":    api.ErrForm,
		strings.Repeat("\x00", 16) + plainly.Text("\x00") + "x": api.ErrForm,
	}
	for s, want := range plainly.WrongNumbers() {
		wrong[s+strings.Repeat("\x00", 15)+"\x01\x00"] = want
	}
	return wrong
}

func TestReadOfTheFactsErrors(t *testing.T) {
	for facts, want := range wrongFacts() {
		if _, err := fact.Read(facts); err != want {
			t.Errorf("layer 15's Read of %.60q = error %d; want %d", facts, err, want)
		}
		// They come ahead of all that the context's bytes tell.
		notRead(t, lay(facts, plainly.Context(full().c)), want)
		for context := range wrongContexts() {
			notRead(t, lay(facts, context), want)
		}
		// Behind all that layer 1 tells of both texts.
		notRead(t, lay(facts, plainly.Context(full().c))+"x", api.ErrForm)
		notRead(t, plainly.Text(facts), api.ErrCut)
		notRead(t, plainly.Text(facts)+"\x81\x80\x04", api.ErrLong)
	}
}

func TestReadOfTheContextsErrors(t *testing.T) {
	for context, want := range wrongContexts() {
		if _, err := causal.Read(context); err != want {
			t.Errorf("layer 13's Read of %.60q = error %d; want %d", context, err, want)
		}
		// They come ahead of what facts and context are beside one another.
		x := one().l[0]
		for _, l := range [][]api.Fact{nil, {x}, {x, later(x)}, full().l, {tag(at(9, 9), "x")}} {
			notRead(t, lay(plainly.Facts(l...), context), want)
		}
		notRead(t, lay("\x00", context)+"x", api.ErrForm)
	}
}

func TestReadOfWhatIsNoStore(t *testing.T) {
	x, y := tag(at(0, 1), "x"), tag(at(0, 3), "y")
	for _, s := range []store{
		{[]api.Fact{x}, api.Context{}},
		{[]api.Fact{x}, of(api.Vector{0, 9, 9})},
		{[]api.Fact{x}, of(api.Vector{}, at(0, 2))},
		{[]api.Fact{x, y}, of(api.Vector{1})},
		{[]api.Fact{x, y}, of(api.Vector{2})},
		{[]api.Fact{x, y}, of(api.Vector{}, at(0, 3))},
		{[]api.Fact{x, y}, of(api.Vector{1}, at(0, 4))},
		{[]api.Fact{x, later(x)}, of(api.Vector{1})},
		{[]api.Fact{x, tag(at(0, 1), "y"), later(x)}, of(api.Vector{1})},
		{[]api.Fact{x, later(later(x))}, of(api.Vector{api.MaxCount})},
	} {
		notRead(t, plainPut(s), api.ErrForm)
		if _, err := fact.Read(plainly.Facts(s.l...)); err != api.OK {
			t.Errorf("layer 15 refuses %s: error %d", shown(s), err)
		}
		if _, err := causal.Read(plainly.Context(s.c)); err != api.OK {
			t.Errorf("layer 13 refuses %s: error %d", shown(s), err)
		}
	}
	// What is told by no bytes, such as a stamp of another replica, is not there when they are read.
	for _, c := range wrongStores() {
		readsPlainly(t, plainPut(c.s))
	}
}

// The two texts are told apart by their lengths alone.
func TestReadOfTextsInOtherPlaces(t *testing.T) {
	facts, context := plainly.Facts(full().l...), plainly.Context(full().c)
	notRead(t, lay(context, facts), readError(lay(context, facts)))
	notRead(t, facts+context, readError(facts+context))
	notRead(t, plainly.Text(facts+context), api.ErrCut)
	notRead(t, plainly.Text(facts)+context, readError(plainly.Text(facts)+context))
	notRead(t, plainly.Text(plainly.Text(facts)+plainly.Text(context)), api.ErrCut)
	notRead(t, lay(facts[:len(facts)-1], facts[len(facts)-1:]+context), api.ErrCut)
	notRead(t, lay(facts+context[:1], context[1:]), api.ErrForm)
}

// readError is the error of plainRead alone.
func readError(s string) api.Errno {
	_, err := plainRead(s)
	return err
}

// plainRead is what promise 21.1 says that Read answers, each of its parts being asked in turn.
func plainRead(s string) (store, api.Errno) {
	facts, behind, first := plainly.TakeText(s)
	context, behind, second := plainly.TakeText(behind)
	end := api.OK
	if behind != "" {
		end = api.ErrForm
	}
	l, ofFacts := fact.Read(facts)
	c, ofContext := causal.Read(context)
	for _, err := range []api.Errno{first, second, end, ofFacts, ofContext, kernel.Check(l, c)} {
		if err != api.OK {
			return store{}, err
		}
	}
	return store{l, c}, api.OK
}

// readsPlainly fails unless Read answers what the promise says, and Put puts it again.
func readsPlainly(t *testing.T, s string) {
	t.Helper()
	l, c, err := canon.Read(s)
	want, wantErr := plainRead(s)
	if got := (store{l, c}); !same(got, want) || err != wantErr {
		t.Fatalf("Read of %.200q = %s, error %d; want %s, error %d", s, shown(got), err, shown(want), wantErr)
	}
	if err != api.OK {
		return
	}
	if again, err := canon.Put(l, c); again != s || err != api.OK {
		t.Fatalf("Put of %s = %.200q, error %d; want %.200q", shown(store{l, c}), again, err, s)
	}
}

// parts are texts of facts, of contexts, and ends of a catalog's bytes, each with what may be wrong with it.
func parts() [3][]string {
	facts := []string{"\x81\x00\x00", "\x81\x80\x04"}
	for _, s := range []store{{}, one(), full(), {l: []api.Fact{one().l[0], later(one().l[0])}}} {
		facts = append(facts, plainly.Text(plainly.Facts(s.l...)))
	}
	for _, s := range slices.Sorted(maps.Keys(wrongFacts())) {
		facts = append(facts, plainly.Text(s))
	}
	contexts := []string{"\x81\x00\x00", "\x81\x80\x04", ""}
	for _, s := range []store{{}, one(), full(), beyond(9)} {
		contexts = append(contexts, plainly.Text(plainly.Context(s.c)))
	}
	for _, s := range slices.Sorted(maps.Keys(wrongContexts())) {
		contexts = append(contexts, plainly.Text(s))
	}
	return [3][]string{facts, contexts, {"", "\x00", "x"}}
}

func TestReadTellsTheFirstError(t *testing.T) {
	p := parts()
	told := map[api.Errno]int{}
	for _, facts := range p[0] {
		for _, context := range p[1] {
			for _, end := range p[2] {
				readsPlainly(t, facts+context+end)
				told[readError(facts+context+end)]++
			}
		}
	}
	for _, err := range []api.Errno{api.OK, api.ErrArg, api.ErrRange, api.ErrLong, api.ErrCut, api.ErrForm, api.ErrName} {
		if told[err] == 0 {
			t.Errorf("no bytes have error %d", err)
		}
	}
}

// Each byte of what was put is changed to each other one.
func TestReadOfWhatWasChanged(t *testing.T) {
	for _, s := range []store{{}, one(), full(), beyond(5)} {
		for changed := range plainly.Changes(plainPut(s)) {
			readsPlainly(t, changed)
		}
	}
}

// Facts of all short bytes stand ahead of some contexts, and contexts of all short ends behind some facts.
func TestReadOfAllShortTexts(t *testing.T) {
	contexts, facts := []store{{}, one(), beyond(2)}, []store{{}, one()}
	for s := range plainly.Words("\x00\x01\x02\x03\x0f\x80a", 5) {
		for _, c := range contexts {
			readsPlainly(t, lay(s, plainly.Context(c.c)))
		}
		for _, f := range facts {
			readsPlainly(t, lay(plainly.Facts(f.l...), strings.Repeat("\x01", 15)+s))
		}
		readsPlainly(t, s)
	}
}

// A fact's whole bytes have all short bytes in their place.
func TestReadOfManyFacts(t *testing.T) {
	context := plainly.Context(of(api.Vector{2, 1}))
	for s := range plainly.Words("\x00\x01\x02\x03", 5) {
		readsPlainly(t, lay("\x01"+s+"\x01a\x01x", context))
	}
}

// Lists that were read are nobody else's.
func TestReadAnswersNewLists(t *testing.T) {
	s := plainPut(full())
	l, c, _ := canon.Read(s)
	again, other, _ := canon.Read(s)
	clear(l)
	clear(c.Cloud)
	// Room behind them is nobody else's either.
	_ = append(l[:0], make([]api.Fact, cap(l))...)
	_ = append(c.Cloud[:0], make([]api.Dot, cap(c.Cloud))...)
	if got := (store{again, other}); !same(got, full()) {
		t.Errorf("Read = %s behind a change of other lists; want %s", shown(got), shown(full()))
	}
}

// Whatever is read without an error is what is put again, and all errors are those of the promise.
func FuzzOneForm(f *testing.F) {
	f.Add("")
	for _, s := range []store{{}, one(), full(), tags(9), beyond(9)} {
		f.Add(plainPut(s))
	}
	for _, c := range wrongStores() {
		f.Add(plainPut(c.s))
	}
	p := parts()
	for _, facts := range p[0] {
		f.Add(facts + p[1][4])
	}
	for _, context := range p[1] {
		f.Add(p[0][3] + context)
	}
	f.Fuzz(readsPlainly)
}
