package fact_test

import (
	"math"
	"slices"
	"strconv"
	"strings"
	"testing"

	"almonry/api"
	"almonry/fact"
	"almonry/plainly"
)

// good are n facts that rise, of all replicas and kinds.
func good(n int) []api.Fact {
	var l []api.Fact
	for i := range n {
		f := each()[i%4]
		f.Name = strconv.Itoa(100000 + i/4)
		f.Dot.N, f.Stamp.Time, f.Stamp.Count = 1+300*i, 7*i, i%3
		l = append(l, at(f, i%api.Replicas))
	}
	return l
}

// with is l, but with f at a place.
func with(l []api.Fact, place int, f api.Fact) []api.Fact {
	l = slices.Clone(l)
	l[place] = f
	return l
}

// puts fails unless Put answers want, and Read reads it again.
func puts(t *testing.T, l []api.Fact, want string) {
	t.Helper()
	kept := slices.Clone(l)
	if s, err := fact.Put(l); s != want || err != api.OK {
		t.Errorf("Put of %d, %s, = %.100q, error %d; want %.100q", len(l), shown(l), s, err, want)
	}
	if !slices.Equal(l, kept) {
		t.Errorf("Put changed what was handed in: %s; want %s", shown(l), shown(kept))
	}
	if got, err := fact.Read(want); !slices.Equal(got, l) || err != api.OK {
		t.Errorf("Read of %.100q = %d, %s, error %d; want %d, %s", want, len(got), shown(got), err, len(l), shown(l))
	}
}

// notPut fails unless Put answers this error, and nothing beside it.
func notPut(t *testing.T, l []api.Fact, want api.Errno) {
	t.Helper()
	kept := slices.Clone(l)
	if s, err := fact.Put(l); s != "" || err != want {
		t.Errorf("Put of %d, %s, = %.100q, error %d; want error %d alone", len(l), shown(l), s, err, want)
	}
	if !slices.Equal(l, kept) {
		t.Errorf("Put changed what was handed in: %s; want %s", shown(l), shown(kept))
	}
}

// notRead fails unless Read answers this error, and nothing beside it.
func notRead(t *testing.T, s string, want api.Errno) {
	t.Helper()
	if l, err := fact.Read(s); len(l) != 0 || err != want {
		t.Errorf("Read of %d bytes, %.100q, = %s, error %d; want error %d alone", len(s), s, shown(l), err, want)
	}
}

// Promise 15.2: Put, and Read of what was put.

func TestPutPutsCountNumbersAndTexts(t *testing.T) {
	puts(t, nil, "\x00")
	puts(t, []api.Fact{}, "\x00")
	puts(t, []api.Fact{say(api.FactTag, "b", "x")}, "\x01\x02\x05\x07\x01\x03\x01b\x01x")
	puts(t, []api.Fact{say(api.FactLabel, "b", "")}, "\x01\x02\x05\x07\x01\x02\x01b\x00")
	puts(t, []api.Fact{say(api.FactKeep, "b", "\x01\x02\x03\x04\x05\x06\x07\x08")}, "\x01\x02\x05\x07\x01\x04\x01b\x08\x01\x02\x03\x04\x05\x06\x07\x08")
	puts(t, []api.Fact{say(api.FactBackup, "b", "\x00\x01\x00")}, "\x01\x02\x05\x07\x01\x01\x01b\x03\x00\x01\x00")
	puts(t, []api.Fact{say(api.FactTag, "a", "y"), say(api.FactLabel, "b", "l"), say(api.FactTag, "b", "x")},
		"\x03"+"\x02\x05\x07\x01\x03\x01a\x01y"+"\x02\x05\x07\x01\x02\x01b\x01l"+"\x02\x05\x07\x01\x03\x01b\x01x")
	most := api.Fact{
		Dot:   api.Dot{Replica: 15, N: api.MaxCount},
		Stamp: api.Stamp{Time: api.MaxTime, Count: 300, Replica: 15},
		Kind:  api.FactTag, Name: "n", Value: "v",
	}
	puts(t, []api.Fact{most}, "\x01\x0f\x80\x80\x80\x80\x80\x20\x80\x80\x80\x80\x80\x20\xac\x02\x03\x01n\x01v")
}

func TestPutOfEachKind(t *testing.T) {
	puts(t, each(), plainly.Facts(each()...))
	for replica := range api.Replicas {
		for _, f := range each() {
			f = at(f, replica)
			puts(t, []api.Fact{f}, plainly.Facts(f))
			f.Dot.N, f.Stamp.Time, f.Stamp.Count = api.MaxCount, 0, api.MaxTime
			puts(t, []api.Fact{f}, plainly.Facts(f))
			f.Dot.N, f.Stamp.Time, f.Stamp.Count = 1, api.MaxTime, 0
			puts(t, []api.Fact{f}, plainly.Facts(f))
		}
	}
}

func TestPutOfTheLongestTexts(t *testing.T) {
	name := strings.Repeat("n", 64)
	for _, f := range []api.Fact{
		say(api.FactBackup, name, plainly.ManifestOf(32768, 131)),
		say(api.FactLabel, name, strings.Repeat("\xff", 256)),
		say(api.FactTag, name, strings.Repeat("\x00", 64)),
	} {
		puts(t, []api.Fact{f}, plainly.Facts(f))
	}
}

func TestPutOfManyFacts(t *testing.T) {
	for _, n := range []int{1, 2, 16, 127, 128, 129, 1000, api.MaxList - 1, api.MaxList} {
		puts(t, good(n), plainly.Facts(good(n)...))
	}
}

// Any facts of rising that an update may say are put as they stand.
func TestPutOfAllThatRise(t *testing.T) {
	var l []api.Fact
	for _, f := range rising() {
		f.Stamp.Replica = f.Dot.Replica
		if fact.Check(f) == api.OK && (len(l) == 0 || l[len(l)-1] != f) {
			l = append(l, f)
		}
	}
	l = fact.Sort(l)
	if len(l) < 50 {
		t.Fatalf("only %d facts", len(l))
	}
	puts(t, l, plainly.Facts(l...))
}

func TestPutRefusesTooMany(t *testing.T) {
	for _, n := range []int{api.MaxList + 1, api.MaxList + 128, 2 * api.MaxList} {
		notPut(t, good(n), api.ErrLong)
	}
	// It comes ahead of all that is wrong with them.
	many := good(api.MaxList + 1)
	notPut(t, with(many, 0, api.Fact{}), api.ErrLong)
	notPut(t, with(many, api.MaxList, api.Fact{}), api.ErrLong)
	notPut(t, with(many, api.MaxList, many[0]), api.ErrLong)
	notPut(t, make([]api.Fact, api.MaxList+1), api.ErrLong)
}

// wrongFacts are facts that no update may say.
func wrongFacts() []api.Fact {
	var l []api.Fact
	for _, f := range mixed() {
		if plainCheck(f) != api.OK {
			l = append(l, f)
		}
	}
	return l
}

func TestPutRefusesWhatNoUpdateSays(t *testing.T) {
	for _, f := range wrongFacts() {
		notPut(t, []api.Fact{f}, plainCheck(f))
	}
	far := say(api.FactTag, "b", "x")
	far.Dot.N = math.MaxInt
	notPut(t, []api.Fact{far}, api.ErrRange)
	for place := range 6 {
		notPut(t, with(good(6), place, say(9, "b", "x")), api.ErrArg)
		notPut(t, with(good(6), place, say(api.FactTag, "", "x")), api.ErrName)
	}
	notPut(t, with(good(api.MaxList), api.MaxList-1, say(api.FactKeep, "b", "x")), api.ErrForm)
}

// Of some that are wrong the first one's error is told.
func TestPutAndReadTellTheFirstOnesError(t *testing.T) {
	for _, a := range kindsOfWrong() {
		for _, b := range kindsOfWrong() {
			for _, l := range [][]api.Fact{{a, b}, {say(api.FactTag, "b", "x"), a, b}, {a, say(api.FactTag, "b", "x"), b}} {
				notPut(t, l, plainCheck(a))
				notRead(t, plainly.Facts(l...), plainCheck(a))
			}
		}
	}
}

// kindsOfWrong is one fact of each error that Check tells of what was read.
func kindsOfWrong() []api.Fact {
	far := say(api.FactTag, "b", "x")
	far.Stamp.Time = api.MaxTime + 1
	return []api.Fact{
		far,
		say(0, "b", "x"),
		say(api.FactTag, "", "x"),
		say(api.FactKeep, "b", "x"),
		say(api.FactBackup, "b", "\x80"),
		say(api.FactLabel, "b", strings.Repeat("l", 257)),
	}
}

// unordered are lists of facts that do not rise.
func unordered() [][]api.Fact {
	a, b, c := say(3, "a", "x"), say(3, "b", "x"), say(3, "b", "y")
	later := b
	later.Stamp.Time++
	next := b
	next.Dot.N++
	l := [][]api.Fact{{b, a}, {a, a}, {a, b, b}, {a, c, b}, {b, a, c}, {b, c, a}, {later, b}, {next, b}, {next, later}, {at(b, 3), b}}
	all := good(40)
	for i := range len(all) - 1 {
		turned := slices.Clone(all)
		turned[i], turned[i+1] = turned[i+1], turned[i]
		l = append(l, turned, with(all, i, all[i+1]), with(all, i+1, all[i]))
	}
	full := good(api.MaxList)
	return append(l, with(full, api.MaxList-1, full[api.MaxList-2]), with(full, 0, full[1]))
}

func TestPutAndReadRefuseWhatDoesNotRise(t *testing.T) {
	for _, l := range unordered() {
		notPut(t, l, api.ErrForm)
		notRead(t, plainly.Facts(l...), api.ErrForm)
	}
}

// Each is asked by Check ahead of the first one's asking whether it rises.
func TestPutAndReadCheckAllAheadOfTheirOrder(t *testing.T) {
	for _, f := range kindsOfWrong() {
		for _, l := range unordered() {
			l = append(slices.Clone(l[:min(len(l), 50)]), f)
			notPut(t, l, plainCheck(f))
			notRead(t, plainly.Facts(l...), plainCheck(f))
		}
	}
}

// Promise 15.2: Read of what was not put.

func TestReadRefusesWrongNumbers(t *testing.T) {
	fields := []string{"\x02", "\x02", "\x05", "\x07", "\x01", "\x03", "\x01b", "\x01x", "\x02", "\x06", "\x07", "\x01", "\x03", "\x01b", "\x01x"}
	for place := range fields {
		ahead, behind := strings.Join(fields[:place], ""), strings.Join(fields[place+1:], "")
		for s, want := range plainly.WrongNumbers() {
			notRead(t, ahead+s, want)
			notRead(t, ahead+s+behind, want)
			notRead(t, ahead+s+behind+"\x00", want)
		}
		notRead(t, ahead+"\x80", api.ErrCut)
		notRead(t, ahead+"\xff\xff\xff\xff\xff\xff\xff\xff\xff", api.ErrCut)
	}
}

func TestReadRefusesWhatIsCut(t *testing.T) {
	notRead(t, "", api.ErrCut)
	for _, l := range [][]api.Fact{{say(3, "b", "x")}, each(), good(9), {at(wrongFacts()[0], 1)}} {
		s := plainly.Facts(l...)
		for size := range len(s) {
			notRead(t, s[:size], api.ErrCut)
		}
	}
	full := plainly.Facts(good(api.MaxList)...)
	notRead(t, full[:len(full)-1], api.ErrCut)
	notRead(t, full[:2], api.ErrCut)
}

func TestReadRefusesWhatIsLeft(t *testing.T) {
	for _, l := range [][]api.Fact{nil, {say(3, "b", "x")}, each(), good(api.MaxList)} {
		for _, left := range []string{"\x00", "x", "\x80", "\x80\x80", "\xff", plainly.Facts(l...)} {
			notRead(t, plainly.Facts(l...)+left, api.ErrForm)
		}
	}
	// Its count tells how many there are, whatever stands there.
	two := plainly.Facts(good(2)...)
	notRead(t, "\x01"+two[1:], api.ErrForm)
	notRead(t, "\x03"+two[1:], api.ErrCut)
	notRead(t, "\x00"+two[1:], api.ErrForm)
}

func TestReadTellsTooManyAsSoonAsTheirNumberIsRead(t *testing.T) {
	for _, n := range []int{api.MaxList + 1, api.MaxList + 128, api.MaxText, api.MaxCount, api.MaxNum} {
		for _, behind := range []string{"", "\x00", "\x00\x01", "\x80", "\x80\x00", plainly.Fact(say(3, "b", "x"))} {
			notRead(t, plainly.Number(n)+behind, api.ErrLong)
		}
	}
	notRead(t, plainly.Facts(good(api.MaxList+1)...), api.ErrLong)
	notRead(t, plainly.Number(api.MaxList), api.ErrCut)
}

func TestReadTellsATextThatIsTooLong(t *testing.T) {
	numbers := "\x02\x05\x07\x01\x03"
	for _, n := range []int{api.MaxText + 1, api.MaxCount, api.MaxNum} {
		for _, behind := range []string{"", "x", "\x80"} {
			notRead(t, "\x01"+numbers+plainly.Number(n)+behind, api.ErrLong)
			notRead(t, "\x01"+numbers+"\x01b"+plainly.Number(n)+behind, api.ErrLong)
		}
	}
	// It comes ahead of what Check tells of the numbers, and behind what is cut ahead of it.
	notRead(t, "\x01\x10\x00\x07\x01\x09"+plainly.Number(api.MaxText+1), api.ErrLong)
	notRead(t, "\x01"+numbers+"\x05b", api.ErrCut)
	// Layer 1 takes a text of its limit; it is Check that refuses it.
	long := strings.Repeat("x", api.MaxText)
	notRead(t, "\x01"+numbers+plainly.Text(long)+"\x01x", api.ErrName)
	notRead(t, "\x01"+numbers+"\x01b"+plainly.Text(long), api.ErrName)
	notRead(t, "\x01\x02\x05\x07\x01\x02\x01b"+plainly.Text(long), api.ErrLong)
	notRead(t, "\x01\x02\x05\x07\x01\x01\x01b"+plainly.Text(long), api.ErrLong)
	notRead(t, "\x01\x02\x05\x07\x01\x04\x01b"+plainly.Text(long), api.ErrForm)
}

func TestReadRefusesWhatNoUpdateSays(t *testing.T) {
	for _, f := range wrongFacts() {
		if f.Stamp.Time < 0 || f.Kind < 0 {
			continue // No number is below 0.
		}
		// What is read has its dot's replica in its stamp.
		read := f
		read.Stamp.Replica = f.Dot.Replica
		if want := plainCheck(read); want != api.OK {
			notRead(t, plainly.Facts(f), want)
		} else {
			readsPlainly(t, plainly.Facts(f))
		}
	}
	for place := range 6 {
		notRead(t, plainly.Facts(with(good(6), place, say(9, "b", "x"))...), api.ErrArg)
		notRead(t, plainly.Facts(with(good(6), place, say(api.FactTag, "", "x"))...), api.ErrName)
	}
}

func TestReadGivesAStampItsDotsReplica(t *testing.T) {
	for replica := range api.Replicas {
		l, err := fact.Read("\x01" + plainly.Number(replica) + "\x05\x07\x01\x03\x01b\x01x")
		if want := []api.Fact{at(say(3, "b", "x"), replica)}; !slices.Equal(l, want) || err != api.OK {
			t.Errorf("Read = %v, error %d; want %v", l, err, want)
		}
	}
}

// What layer 1 tells of all bytes comes ahead of Check's error, and of the order.
func TestReadTellsErrorsInTheirOrder(t *testing.T) {
	good, wrong, ahead := plainly.Fact(say(3, "b", "x")), plainly.Fact(say(9, "b", "x")), plainly.Fact(say(3, "a", "x"))
	notRead(t, "\x02"+wrong, api.ErrCut)
	notRead(t, "\x03"+good+ahead+"\x02", api.ErrCut)
	notRead(t, "\x01"+wrong+"\x00", api.ErrForm)
	notRead(t, "\x02"+wrong+"\x80\x00", api.ErrForm)
	notRead(t, "\x02"+good+good+"\x00", api.ErrForm)
	notRead(t, "\x02"+good+ahead, api.ErrForm)
	notRead(t, "\x03"+good+ahead+wrong, api.ErrArg)
	notRead(t, "\x03"+good+good+plainly.Fact(say(3, "", "x")), api.ErrName)
}

// plainTake reads a fact as promise 15.2 says.
func plainTake(s string) (api.Fact, string, api.Errno) {
	var f api.Fact
	for _, n := range []*int{&f.Dot.Replica, &f.Dot.N, &f.Stamp.Time, &f.Stamp.Count, &f.Kind} {
		var err api.Errno
		if *n, s, err = plainly.TakeNumber(s); err != api.OK {
			return f, "", err
		}
	}
	for _, v := range []*string{&f.Name, &f.Value} {
		var err api.Errno
		if *v, s, err = plainly.TakeText(s); err != api.OK {
			return f, "", err
		}
	}
	f.Stamp.Replica = f.Dot.Replica
	return f, s, api.OK
}

// plainRead is what promise 15.2 says that Read answers.
func plainRead(s string) ([]api.Fact, api.Errno) {
	count, s, err := plainly.TakeNumber(s)
	if err != api.OK {
		return nil, err
	}
	if count > 4096 {
		return nil, api.ErrLong
	}
	var l []api.Fact
	for len(l) < count {
		var f api.Fact
		if f, s, err = plainTake(s); err != api.OK {
			return nil, err
		}
		l = append(l, f)
	}
	if s != "" {
		return nil, api.ErrForm
	}
	for _, f := range l {
		if err := plainCheck(f); err != api.OK {
			return nil, err
		}
	}
	if !slices.Equal(l, fact.Sort(l)) {
		return nil, api.ErrForm
	}
	return l, api.OK
}

// readsPlainly fails unless Read answers what the promise says, and Put puts it again.
func readsPlainly(t *testing.T, s string) {
	t.Helper()
	l, err := fact.Read(s)
	want, wantErr := plainRead(s)
	if !slices.Equal(l, want) || err != wantErr {
		t.Fatalf("Read of %.100q = %s, error %d; want %s, error %d", s, shown(l), err, shown(want), wantErr)
	}
	if err != api.OK {
		return
	}
	if again, err := fact.Put(l); again != s || err != api.OK {
		t.Fatalf("Put of %s = %.100q, error %d; want %.100q", shown(l), again, err, s)
	}
}

func TestReadOfAllShortBytes(t *testing.T) {
	// Behind these bytes some lists end within those that are walked.
	for _, ahead := range []string{"", "\x01\x02\x05\x07\x01", "\x01\x02\x05\x07\x01\x03", "\x02\x01\x01\x01\x01\x03\x01\x02\x01\x02\x01\x01\x01\x01", "\x01\x0f\x05\x07\x01\x01\x01b"} {
		for s := range plainly.Words("\x00\x01\x02\x03\x10\x80", 6) {
			readsPlainly(t, ahead+s)
		}
	}
}

// Each byte of what was put is changed to each other one.
func TestReadOfWhatWasChanged(t *testing.T) {
	for _, l := range [][]api.Fact{{say(3, "b", "x")}, each(), {say(3, "a", "y"), say(3, "b", "x"), say(3, "b", "y")}} {
		for changed := range plainly.Changes(plainly.Facts(l...)) {
			readsPlainly(t, changed)
		}
	}
}

// A list that was read is nobody else's.
func TestReadAnswersNewLists(t *testing.T) {
	s := plainly.Facts(each()...)
	a, _ := fact.Read(s)
	b, _ := fact.Read(s)
	clear(a)
	if !slices.Equal(b, each()) {
		t.Errorf("Read = %v behind a change of another list; want %v", b, each())
	}
}

// Whatever is read without an error is what is put again, and all errors are those of the promise.
func FuzzOneForm(f *testing.F) {
	f.Add("")
	f.Add("\x81\x20")
	f.Add(plainly.Facts(each()...))
	f.Add(plainly.Facts(good(9)...))
	for _, wrong := range kindsOfWrong() {
		f.Add(plainly.Facts(wrong))
	}
	for _, l := range unordered()[:10] {
		f.Add(plainly.Facts(l...))
	}
	f.Fuzz(readsPlainly)
}
