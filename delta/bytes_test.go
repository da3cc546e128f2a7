package delta_test

import (
	"strconv"
	"strings"
	"testing"

	"almonry/api"
	"almonry/delta"
	"almonry/dot"
	"almonry/fact"
	"almonry/plainly"
	"almonry/wire"
)

// factsText is the text of facts, whether layer 15 takes them or not.
func factsText(l ...api.Fact) string { return plainly.Text(plainly.Facts(l...)) }

// goneText is the text of names, whether layer 11 takes them or not.
func goneText(l ...api.Dot) string { return plainly.Text(plainly.Dots(l...)) }

// plainPut is what promise 18.1 says that Put puts, also where it would not.
func plainPut(d api.Delta) string {
	return plainly.Numbers(d.Dot.Replica, d.Dot.N, d.Stamp.Time, d.Stamp.Count) + factsText(d.Facts...) + goneText(d.Gone...)
}

// puts fails unless Put answers want, and Read reads it again.
func puts(t *testing.T, d api.Delta, want string) {
	t.Helper()
	kept := copied(d)
	if s, err := delta.Put(d); s != want || err != api.OK {
		t.Errorf("Put of %s = %d bytes, %.100q, error %d; want %d, %.100q", shown(d), len(s), s, err, len(want), want)
	}
	if !same(d, kept) {
		t.Errorf("Put changed what was handed in: %s; want %s", shown(d), shown(kept))
	}
	if got, err := delta.Read(want); !same(got, d) || err != api.OK {
		t.Errorf("Read of %.100q = %s, error %d; want %s", want, shown(got), err, shown(d))
	}
}

// notPut fails unless Put answers this error, and nothing beside it.
func notPut(t *testing.T, d api.Delta, want api.Errno) {
	t.Helper()
	kept := copied(d)
	if s, err := delta.Put(d); s != "" || err != want {
		t.Errorf("Put of %s = %.100q, error %d; want error %d alone", shown(d), s, err, want)
	}
	if !same(d, kept) {
		t.Errorf("Put changed what was handed in: %s; want %s", shown(d), shown(kept))
	}
}

// notRead fails unless Read answers this error, and nothing beside it.
func notRead(t *testing.T, s string, want api.Errno) {
	t.Helper()
	if d, err := delta.Read(s); !same(d, api.Delta{}) || err != want {
		t.Errorf("Read of %d bytes, %.100q, = %s, error %d; want error %d alone", len(s), s, shown(d), err, want)
	}
}

// Promise 18.1: Put, and Read of what was put.

func TestPutPutsNumbersAndTexts(t *testing.T) {
	tag := saying(bare(), api.FactTag, "b", "x")
	tagBytes := "\x02\x05\x07\x01\x03\x01b\x01x"
	puts(t, api.Delta{Dot: at(0, 1)}, "\x00\x01\x00\x00"+"\x01\x00"+"\x01\x00")
	puts(t, api.Delta{Dot: at(0, 1), Facts: []api.Fact{}, Gone: []api.Dot{}}, "\x00\x01\x00\x00"+"\x01\x00"+"\x01\x00")
	puts(t, bare(), "\x02\x05\x07\x01"+"\x01\x00"+"\x01\x00")
	puts(t, tag, "\x02\x05\x07\x01"+"\x0a\x01"+tagBytes+"\x01\x00")
	puts(t, back(bare(), at(1, 3)), "\x02\x05\x07\x01"+"\x01\x00"+"\x03\x01\x01\x03")
	puts(t, back(tag, at(0, 9), at(1, 300)), "\x02\x05\x07\x01"+"\x0a\x01"+tagBytes+"\x06\x02\x00\x09\x01\xac\x02")
	puts(t, saying(tag, api.FactTag, "b", "y"), "\x02\x05\x07\x01"+"\x13\x02"+tagBytes+"\x02\x05\x07\x01\x03\x01b\x01y"+"\x01\x00")
	most := api.Delta{Dot: at(15, api.MaxCount), Stamp: api.Stamp{Time: api.MaxTime, Count: 300, Replica: 15}}
	puts(t, most, "\x0f\x80\x80\x80\x80\x80\x20\x80\x80\x80\x80\x80\x20\xac\x02"+"\x01\x00"+"\x01\x00")
}

func TestPutOfNumbersAtTheEdges(t *testing.T) {
	some := []int{0, 1, 127, 128, 16383, 16384, api.MaxCount - 1, api.MaxCount}
	for replica := range api.Replicas {
		for _, n := range some[1:] {
			for _, time := range some {
				for _, count := range some {
					d := saidBy(full(), at(replica, n), api.Stamp{Time: time, Count: count, Replica: replica})
					puts(t, d, plainPut(d))
				}
			}
		}
	}
}

func TestPutOfManyFactsAndGones(t *testing.T) {
	for _, n := range []int{0, 1, 2, 127, 128, 255, 256} {
		for _, m := range []int{0, 1, 2, 127, 128, 255, 256} {
			d := back(tags(n), dots(m)...)
			puts(t, d, plainPut(d))
		}
	}
}

func TestPutRefusesWhatCheckRefuses(t *testing.T) {
	for _, d := range mixed() {
		want := plainCheck(d)
		if want == api.OK {
			puts(t, d, plainPut(d))
			continue
		}
		notPut(t, d, want)
	}
	notPut(t, api.Delta{}, api.ErrRange)
	notPut(t, tags(257), api.ErrLong)
	notPut(t, back(bare(), dots(257)...), api.ErrLong)
	notPut(t, tags(5000), api.ErrLong)
	notPut(t, back(bare(), dots(5000)...), api.ErrLong)
	notPut(t, back(bare(), at(2, 5)), api.ErrForm)
	notPut(t, back(tags(5000), at(2, 5)), api.ErrForm)
}

// great is an update of n backups, whose manifests are as long as they may be.
func great(n int) api.Delta {
	d, value := bare(), plainly.ManifestOf(32768, 131)
	for i := range n {
		d = saying(d, api.FactBackup, strconv.Itoa(100+i), value)
	}
	return d
}

// Each fact may be said, but they may be too long for a text, all together.
func TestPutOfFactsAtTheLimitOfAText(t *testing.T) {
	sizes, four := map[int]bool{}, great(4)
	for label := range 257 {
		d := saying(four, api.FactLabel, "103", strings.Repeat("l", label))
		size := len(plainly.Facts(d.Facts...))
		sizes[size] = true
		checks(t, d, api.OK)
		if size > 65536 {
			notPut(t, d, api.ErrLong)
			notRead(t, plainPut(d), api.ErrLong)
		} else {
			puts(t, d, plainPut(d))
		}
	}
	if !sizes[65536] || !sizes[65537] {
		t.Error("no facts of just as many bytes as a text may have, or of one more")
	}
	most := great(256)
	checks(t, most, api.OK)
	notPut(t, most, api.ErrLong)
	// What is wrong with the update is told ahead of what is too long to be put.
	notPut(t, back(most, at(2, 5)), api.ErrForm)
	notPut(t, back(great(5), at(2, 0)), api.ErrRange)
}

// The names of as many updates as can be taken back are never too long.
func TestPutOfTheGreatestGones(t *testing.T) {
	var l []api.Dot
	for i := range 256 {
		l = append(l, at(15, api.MaxCount-255+i))
	}
	d := back(bare(), l...)
	puts(t, d, plainPut(d))
}

// Promise 18.1: Read.

func TestReadOfLayerOnesErrors(t *testing.T) {
	none := "\x01\x00"
	for _, c := range []struct {
		s    string
		want api.Errno
	}{
		{"", api.ErrCut},
		{"\x02", api.ErrCut},
		{"\x02\x05\x07\x01", api.ErrCut},
		{"\x02\x05\x07\x01" + none, api.ErrCut},
		{"\x02\x05\x07\x01" + none + "\x01", api.ErrCut},
		{"\x02\x05\x07\x01" + none + "\x02\x00", api.ErrCut},
		{"\x02\x05\x07\x01" + none + none + "\x00", api.ErrForm},
		{"\x02\x05\x07\x01" + none + none + none, api.ErrForm},
		{"\x82\x00\x05\x07\x01" + none + none, api.ErrForm},
		{"\x02\x85\x00\x07\x01" + none + none, api.ErrForm},
		{"\x02\x05\x87\x00\x01" + none + none, api.ErrForm},
		{"\x02\x05\x07\x81\x00" + none + none, api.ErrForm},
		{"\x02\x05\x07\x01\x81\x00\x00" + none, api.ErrForm},
		{"\x02\x05\x07\x01" + none + "\x81\x00\x00", api.ErrForm},
		{"\x81\x80\x80\x80\x80\x80\x80\x10\x05\x07\x01" + none + none, api.ErrRange},
		{"\x02\x81\x80\x80\x80\x80\x80\x80\x10\x07\x01" + none + none, api.ErrRange},
		{"\x02\x05\x81\x80\x80\x80\x80\x80\x80\x10\x01" + none + none, api.ErrRange},
		{"\x02\x05\x07\x81\x80\x80\x80\x80\x80\x80\x10" + none + none, api.ErrRange},
		{"\x02\x05\x07\x01\x81\x80\x04", api.ErrLong},
		{"\x02\x05\x07\x01" + none + "\x81\x80\x04", api.ErrLong},
		{"\x02\x05\x07\x01\x80\x80\x04", api.ErrCut},
		{"\x02\x05\x07\x01" + none + "\x80\x80\x04", api.ErrCut},
		// The first one of them is told, whatever stands behind it.
		{"\x82\x00\x81\x80\x80\x80\x80\x80\x80\x10", api.ErrForm},
		{"\x02\x05\x07\x01\x81\x80\x04\x81\x00", api.ErrLong},
	} {
		notRead(t, c.s, c.want)
	}
}

func TestReadOfCutAndLeftBytes(t *testing.T) {
	for _, d := range []api.Delta{bare(), full(), back(tags(3), dots(40)...)} {
		s := plainPut(d)
		for size := range s {
			notRead(t, s[:size], api.ErrCut)
		}
		for _, left := range []string{"\x00", "x", "\xff", s} {
			notRead(t, s+left, api.ErrForm)
		}
	}
}

func TestReadOfTheFactsErrors(t *testing.T) {
	d := tags(3)
	whole := plainly.Facts(d.Facts...)
	for _, c := range []struct {
		facts string
		want  api.Errno
	}{
		{"", api.ErrCut},
		{"\x01", api.ErrCut},
		{whole[:len(whole)-1], api.ErrCut},
		{whole + "\x00", api.ErrForm},
		{"\x81\x20", api.ErrLong},
		{"\x80\x00", api.ErrForm},
		{"\x81\x80\x80\x80\x80\x80\x80\x10", api.ErrRange},
		{plainly.Facts(tags(4097).Facts...), api.ErrLong},
	} {
		notRead(t, plainly.Numbers(2, 5, 7, 1)+plainly.Text(c.facts)+goneText(), c.want)
		if _, err := fact.Read(c.facts); len(c.facts) <= 65536 && err != c.want {
			t.Errorf("layer 15's Read of %.60q = error %d; want %d", c.facts, err, c.want)
		}
	}
	for want, f := range wrongFacts(d.Facts[1]) {
		d := d
		d.Facts = with(d.Facts, 1, f)
		notRead(t, plainPut(d), want)
	}
	d.Facts[0], d.Facts[1] = d.Facts[1], d.Facts[0]
	notRead(t, plainPut(d), api.ErrForm)
}

func TestReadOfTheGonesErrors(t *testing.T) {
	whole := plainly.Dots(dots(3)...)
	for _, c := range []struct {
		gone string
		want api.Errno
	}{
		{"", api.ErrCut},
		{"\x01", api.ErrCut},
		{"\x01\x01", api.ErrCut},
		{whole[:len(whole)-1], api.ErrCut},
		{whole + "\x00", api.ErrForm},
		{"\x81\x20", api.ErrLong},
		{"\x80\x00", api.ErrForm},
		{plainly.Dots(dots(4097)...), api.ErrLong},
		{plainly.Dots(at(2, 0)), api.ErrRange},
		{plainly.Dots(at(16, 1)), api.ErrRange},
		{plainly.Dots(at(1, 1), at(0, 1)), api.ErrForm},
		{plainly.Dots(at(1, 1), at(1, 1)), api.ErrForm},
	} {
		notRead(t, plainly.Numbers(2, 5, 7, 1)+factsText()+plainly.Text(c.gone), c.want)
		notRead(t, plainly.Numbers(2, 5, 7, 1)+factsText(tags(2).Facts...)+plainly.Text(c.gone), c.want)
	}
}

func TestReadOfWhatCheckRefuses(t *testing.T) {
	for _, d := range []api.Delta{
		{Dot: at(0, 0)},
		{Dot: at(16, 1), Stamp: api.Stamp{Replica: 16}},
		{Dot: at(2, api.MaxCount+1), Stamp: api.Stamp{Replica: 2}},
		{Dot: at(2, 1), Stamp: api.Stamp{Time: api.MaxTime + 1, Replica: 2}},
		{Dot: at(2, 1), Stamp: api.Stamp{Count: api.MaxTime + 1, Replica: 2}},
	} {
		notRead(t, plainPut(d), api.ErrRange)
		notRead(t, plainPut(back(saying(d, 3, "b", "x"), at(1, 1))), api.ErrRange)
	}
	for _, change := range []func(f *api.Fact){
		func(f *api.Fact) { f.Dot.N++ },
		func(f *api.Fact) { f.Dot.Replica++ },
		func(f *api.Fact) { f.Stamp.Time++ },
		func(f *api.Fact) { f.Stamp.Count++ },
	} {
		d := tags(1)
		change(&d.Facts[0])
		notRead(t, plainPut(d), api.ErrForm)
	}
	notRead(t, plainPut(back(bare(), at(2, 5))), api.ErrForm)
	notRead(t, plainPut(tags(257)), api.ErrLong)
	notRead(t, plainPut(back(bare(), dots(257)...)), api.ErrLong)
	notRead(t, plainPut(back(bare(), dots(4096)...)), api.ErrLong)
	notRead(t, plainPut(tags(4096)), api.ErrLong)
	notRead(t, plainPut(back(tags(257), at(2, 5))), api.ErrForm)
}

// plainRead is what promise 18.1 says that Read answers, each of its parts being asked in turn.
func plainRead(s string) (api.Delta, api.Errno) {
	r := wire.New(s)
	var n [4]int
	for i := range n {
		n[i] = r.Num()
	}
	facts := r.Text()
	gone := r.Text()
	d := api.Delta{Dot: at(n[0], n[1]), Stamp: api.Stamp{Time: n[2], Count: n[3], Replica: n[0]}}
	errs := []api.Errno{r.Done(), 0, 0, 0}
	d.Facts, errs[1] = fact.Read(facts)
	d.Gone, errs[2] = dot.Read(gone)
	errs[3] = plainCheck(d)
	for _, err := range errs {
		if err != api.OK {
			return api.Delta{}, err
		}
	}
	return d, api.OK
}

// readsPlainly fails unless Read answers what the promise says, and Put puts it again.
func readsPlainly(t *testing.T, s string) {
	t.Helper()
	d, err := delta.Read(s)
	want, wantErr := plainRead(s)
	if !same(d, want) || err != wantErr {
		t.Fatalf("Read of %.200q = %s, error %d; want %s, error %d", s, shown(d), err, shown(want), wantErr)
	}
	if err != api.OK {
		return
	}
	if again, err := delta.Put(d); again != s || err != api.OK {
		t.Fatalf("Put of %s = %.200q, error %d; want %.200q", shown(d), again, err, s)
	}
}

// parts are heads, facts, gones and ends of an update's bytes, each with what may be wrong with it.
func parts() [4][]string {
	d, unlike := tags(2), tags(2)
	unlike.Facts[1].Kind = 0
	other := saidBy(d, at(2, 6), d.Stamp)
	wrongTexts := []string{plainly.Text(""), plainly.Text("\x81\x20"), plainly.Text("\x00\x00"), "\x81\x00\x00", "\x81\x80\x04"}
	heads := []string{
		plainly.Numbers(2, 5, 7, 1), plainly.Numbers(2, 0, 7, 1), plainly.Numbers(3, 5, 7, 1), plainly.Numbers(2, 5, api.MaxNum, 1),
		plainly.Numbers(2, 5, 7) + "\x81\x00", plainly.Numbers(2, 5, 7, api.MaxNum+1),
	}
	facts := []string{
		factsText(), factsText(d.Facts...), factsText(other.Facts...), factsText(unlike.Facts...),
		factsText(d.Facts[1], d.Facts[0]), factsText(tags(257).Facts...),
	}
	gones := []string{
		goneText(), goneText(dots(3)...), goneText(at(2, 0)), goneText(at(1, 1), at(0, 1)), goneText(at(2, 5)), goneText(dots(257)...),
	}
	return [4][]string{heads, append(facts, wrongTexts...), append(gones, wrongTexts...), {"", "\x00", "x"}}
}

func TestReadTellsTheFirstError(t *testing.T) {
	p := parts()
	told := map[api.Errno]bool{}
	for _, head := range p[0] {
		for _, facts := range p[1] {
			for _, gone := range p[2] {
				for _, end := range p[3] {
					s := head + facts + gone + end
					readsPlainly(t, s)
					_, err := delta.Read(s)
					told[err] = true
				}
			}
		}
	}
	for _, err := range []api.Errno{api.OK, api.ErrArg, api.ErrRange, api.ErrLong, api.ErrForm, api.ErrCut} {
		if !told[err] {
			t.Errorf("no bytes have error %d", err)
		}
	}
}

// Of two parts that are wrong, it is the one that is asked first that tells.
func TestReadAsksTheFactsAheadOfTheGonesAheadOfTheRest(t *testing.T) {
	badHead, badFacts, badGone := plainly.Numbers(2, 0, 7, 1), plainly.Text("\x00\x00"), plainly.Text("\x81\x20")
	notRead(t, badHead+factsText()+goneText(), api.ErrRange)
	notRead(t, badHead+badFacts+goneText(), api.ErrForm)
	notRead(t, badHead+badFacts+badGone, api.ErrForm)
	notRead(t, badHead+factsText()+badGone, api.ErrLong)
	notRead(t, badHead+plainly.Text("")+badGone, api.ErrCut)
	notRead(t, badHead+plainly.Text("")+badGone+"x", api.ErrForm)
}

// Each byte of what was put is changed to each other one.
func TestReadOfWhatWasChanged(t *testing.T) {
	for _, d := range []api.Delta{bare(), full(), back(tags(2), dots(5)...)} {
		for changed := range plainly.Changes(plainPut(d)) {
			readsPlainly(t, changed)
		}
	}
}

// Lists that were read are nobody else's.
func TestReadAnswersNewLists(t *testing.T) {
	s := plainPut(full())
	a, _ := delta.Read(s)
	b, _ := delta.Read(s)
	clear(a.Facts)
	clear(a.Gone)
	if !same(b, full()) {
		t.Errorf("Read = %s behind a change of other lists; want %s", shown(b), shown(full()))
	}
}

// Whatever is read without an error is what is put again, and all errors are those of the promise.
func FuzzOneForm(f *testing.F) {
	f.Add("")
	f.Add(plainPut(bare()))
	f.Add(plainPut(full()))
	f.Add(plainPut(back(tags(9), dots(9)...)))
	p := parts()
	for i := range 4 {
		for _, part := range p[i] {
			one := [4]string{p[0][0], p[1][1], p[2][1], ""}
			one[i] = part
			f.Add(strings.Join(one[:], ""))
		}
	}
	f.Fuzz(readsPlainly)
}
