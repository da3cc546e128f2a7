package causal_test

import (
	"slices"
	"strings"
	"testing"

	"almonry/api"
	"almonry/causal"
	"almonry/dot"
	"almonry/plainly"
	"almonry/vector"
	"almonry/wire"
)

// vectorBytes is how layer 12 puts a vector, whether it takes it or not.
func vectorBytes(v api.Vector) string { return plainly.Numbers(v[:]...) }

// puts fails unless Put answers want, and Read reads it again.
func puts(t *testing.T, c api.Context, want string) {
	t.Helper()
	if s, err := causal.Put(c); s != want || err != api.OK {
		t.Errorf("Put of %.100v = %d bytes, %.60q, error %d; want %d, %.60q", c, len(s), s, err, len(want), want)
	}
	if got, err := causal.Read(want); !same(got, c) || err != api.OK {
		t.Errorf("Read of %.60q = %.100v, error %d; want %.100v", want, got, err, c)
	}
}

// notPut fails unless Put answers this error, and nothing beside it.
func notPut(t *testing.T, c api.Context, want api.Errno) {
	t.Helper()
	if s, err := causal.Put(c); s != "" || err != want {
		t.Errorf("Put of %.100v = %.60q, error %d; want error %d alone", c, s, err, want)
	}
}

// notRead fails unless Read answers this error, and nothing beside it.
func notRead(t *testing.T, s string, want api.Errno) {
	t.Helper()
	if c, err := causal.Read(s); c.V != (api.Vector{}) || len(c.Cloud) != 0 || err != want {
		t.Errorf("Read of %d bytes, %.60q, = %.100v, error %d; want error %d alone", len(s), s, c, err, want)
	}
}

// Promise 13.2: Put, and Read of what was put.

func TestPut(t *testing.T) {
	none := strings.Repeat("\x00", 16)
	puts(t, of(api.Vector{}), none+"\x01\x00")
	puts(t, api.Context{Cloud: []api.Dot{}}, none+"\x01\x00")
	puts(t, of(api.Vector{2}, at(1, 3)), "\x02"+none[1:]+"\x03\x01\x01\x03")
	puts(t, of(api.Vector{15: 300}, at(0, 2), at(15, api.MaxCount)), none[1:]+"\xac\x02"+"\x0a\x02\x00\x02\x0f\x80\x80\x80\x80\x80\x20")
	puts(t, of(all(api.MaxCount)), strings.Repeat("\x80\x80\x80\x80\x80\x20", 16)+"\x01\x00")
	puts(t, of(api.Vector{1, 2, 3}, row(0, 3, 60)...), "\x01\x02\x03"+none[3:]+"\x75\x3a"+plainly.Dots(row(0, 3, 60)...)[1:])
}

func TestPutOfEachPlace(t *testing.T) {
	for place := range api.Replicas {
		for _, n := range []int{0, 1, 127, 128, 1<<32 + 5, api.MaxCount - 3} {
			v := with(all(5), place, n)
			for _, c := range []api.Context{of(v), of(v, at(place, n+2)), of(v, at(place, n+2), at(place, n+3)), of(v, at(place, n+3))} {
				puts(t, c, plainly.Context(c))
			}
		}
		for _, c := range []api.Context{of(with(all(5), place, api.MaxCount)), of(with(all(5), place, api.MaxCount-2), at(place, api.MaxCount))} {
			puts(t, c, plainly.Context(c))
		}
	}
}

func TestPutOfManyDots(t *testing.T) {
	for _, n := range []int{1, 2, 63, 64, 127, 128, 1000, api.MaxList - 1, api.MaxList} {
		c := of(api.Vector{}, odd(n)...)
		puts(t, c, plainly.Context(c))
		// The longest names there are.
		c = of(api.Vector{}, row(15, api.MaxCount-n, api.MaxCount-1)...)
		puts(t, c, plainly.Context(c))
	}
}

func TestPutOfManyContexts(t *testing.T) {
	next := chance()
	for range 500 {
		c := causal.Clean(some(next))
		puts(t, c, plainly.Context(c))
	}
	for _, c := range small() {
		if slices.Min(c.V[:]) >= 0 && same(c, causal.Clean(c)) {
			puts(t, c, plainly.Context(c))
		}
	}
}

func TestPutRefusesTooMany(t *testing.T) {
	for _, n := range []int{api.MaxList + 1, api.MaxList + 128, 3 * api.MaxList} {
		l := odd(n)
		notPut(t, of(api.Vector{}, l...), api.ErrLong)
		// Check's error comes ahead of ErrLong.
		notPut(t, of(api.Vector{}, append(slices.Clone(l), l[0])...), api.ErrForm)
		notPut(t, of(api.Vector{}, append(slices.Clone(l), at(16, 1))...), api.ErrForm)
		notPut(t, of(api.Vector{15: -1}, l...), api.ErrRange)
	}
	// Many dots that are one behind the other are none beyond the vector.
	c := causal.Add(api.Context{}, row(4, 1, 3*api.MaxList))
	puts(t, c, plainly.Context(of(api.Vector{4: 3 * api.MaxList})))
}

// Promise 13.2: Read of what was not put.

func TestReadRefusesWrongNumbers(t *testing.T) {
	for place := range api.Replicas + 1 {
		ahead := strings.Repeat("\x05", place)
		behind := strings.Repeat("\x05", max(15-place, 0)) + "\x01\x00"
		for s, want := range plainly.WrongNumbers() {
			notRead(t, ahead+s+behind, want)
			notRead(t, ahead+s+behind+"\x00", want)
			notRead(t, ahead+s, want)
		}
		notRead(t, ahead+"\x80", api.ErrCut)
		notRead(t, ahead+"\xff\xff\xff\xff\xff\xff\xff\xff\xff", api.ErrCut)
	}
}

// clean are Clean contexts of each kind.
func clean() []api.Context {
	return []api.Context{
		{}, of(all(300)), of(all(5), at(3, 7)), of(all(0), odd(9)...), of(all(api.MaxCount-2), at(15, api.MaxCount)), of(all(1), odd(200)[1:]...),
	}
}

func TestReadRefusesWhatIsCut(t *testing.T) {
	for _, c := range clean() {
		s := plainly.Context(c)
		for size := range len(s) {
			notRead(t, s[:size], api.ErrCut)
		}
	}
}

func TestReadRefusesWhatIsLeft(t *testing.T) {
	for _, c := range clean() {
		for _, left := range []string{"\x00", "x", "\x80", "\x80\x00", "\xff", plainly.Context(c)} {
			notRead(t, plainly.Context(c)+left, api.ErrForm)
			// Inside the text it is layer 11's to refuse it.
			notRead(t, vectorBytes(c.V)+plainly.Text(plainly.Dots(c.Cloud...)+left), api.ErrForm)
		}
	}
}

func TestReadRefusesATextThatIsTooLong(t *testing.T) {
	for _, n := range []int{api.MaxText + 1, api.MaxCount, api.MaxNum} {
		notRead(t, vectorBytes(all(0))+plainly.Number(n), api.ErrLong)
		notRead(t, vectorBytes(all(0))+plainly.Number(n)+"\x00", api.ErrLong)
		notRead(t, vectorBytes(all(api.MaxNum))+plainly.Number(n), api.ErrLong)
	}
	long := plainly.Text(strings.Repeat("\x00", api.MaxText+1))
	notRead(t, vectorBytes(all(0))+long, api.ErrLong)
	notRead(t, vectorBytes(all(0))+plainly.Text(strings.Repeat("\x00", api.MaxText)), api.ErrForm)
	notRead(t, vectorBytes(all(0))+plainly.Number(api.MaxText), api.ErrCut)
}

func TestReadRefusesWrongVectors(t *testing.T) {
	for place := range api.Replicas {
		for _, n := range []int{api.MaxCount + 1, 2 * api.MaxCount, api.MaxNum} {
			v := vectorBytes(with(all(5), place, n))
			// It comes ahead of all that the text's bytes tell, and behind what layer 1 tells.
			for _, dots := range []string{plainly.Dots(), "", "\x80", "\x81\x20", plainly.Dots(at(16, 1)), plainly.Dots(at(3, 1)), plainly.Dots(at(3, 9), at(3, 8))} {
				notRead(t, v+plainly.Text(dots), api.ErrRange)
				notRead(t, v+plainly.Text(dots)+"\x00", api.ErrForm)
			}
			notRead(t, v, api.ErrCut)
			notRead(t, v+"\x02\x00", api.ErrCut)
		}
	}
}

func TestReadRefusesWrongDots(t *testing.T) {
	for _, c := range []struct {
		dots string
		want api.Errno
	}{
		{"", api.ErrCut},
		{"\x01", api.ErrCut},
		{"\x01\x03", api.ErrCut},
		{"\x80", api.ErrCut},
		{"\x80\x00", api.ErrForm},
		{"\x00\x00", api.ErrForm},
		{"\x81\x80\x80\x80\x80\x80\x80\x10", api.ErrRange},
		{"\x81\x20", api.ErrLong},
		{plainly.Dots(odd(api.MaxList + 1)...), api.ErrLong},
		{plainly.Dots(at(16, 9)), api.ErrRange},
		{plainly.Dots(at(3, 0)), api.ErrRange},
		{plainly.Dots(at(3, api.MaxCount+1)), api.ErrRange},
		{plainly.Dots(at(3, 9), at(3, 8)), api.ErrForm},
		{plainly.Dots(at(3, 9), at(3, 9)), api.ErrForm},
		{plainly.Dots(at(3, 9), at(2, 9), at(2, 0)), api.ErrRange},
		{plainly.Dots(at(3, 1), at(3, 0)), api.ErrRange},
		{plainly.Dots(at(3, 1)) + "\x01", api.ErrForm},
	} {
		notRead(t, vectorBytes(all(5))+plainly.Text(c.dots), c.want)
		if got, err := dot.Read(c.dots); len(got) != 0 || err != c.want {
			t.Errorf("layer 11's Read of %.60q = error %d; want %d", c.dots, err, c.want)
		}
	}
}

func TestReadRefusesWhatIsNotClean(t *testing.T) {
	for place := range api.Replicas {
		for _, n := range []int{1, 2, 4, 5, 6} {
			notRead(t, plainly.Context(of(all(5), at(place, n))), api.ErrForm)
			notRead(t, plainly.Context(of(all(5), at(place, n), at(place, 100))), api.ErrForm)
			// Among others that may stand there.
			mixed := dot.Sort(append(each(7), at(place, n)))
			notRead(t, plainly.Context(of(all(5), mixed...)), api.ErrForm)
		}
		notRead(t, plainly.Context(of(all(0), at(place, 1))), api.ErrForm)
		notRead(t, plainly.Context(of(all(api.MaxCount), at(place, api.MaxCount))), api.ErrForm)
		notRead(t, plainly.Context(of(all(api.MaxCount-1), at(place, api.MaxCount))), api.ErrForm)
	}
	for _, c := range unclean() {
		if dots, err := dot.Put(c.Cloud); err == api.OK {
			notRead(t, vectorBytes(c.V)+plainly.Text(dots), api.ErrForm)
		}
	}
}

// plainRead is what promise 13.2 says that Read answers: the 16 numbers are cut out, and given to layer 12 alone, and the text to layer 11.
func plainRead(s string) (api.Context, api.Errno) {
	r, end := wire.New(s), 0
	for range api.Replicas {
		r.Num()
		for end < len(s) && s[end] >= 128 {
			end++
		}
		end = min(end+1, len(s))
	}
	dots := r.Text()
	if err := r.Done(); err != api.OK {
		return api.Context{}, err
	}
	v, err := vector.Read(s[:end])
	if err != api.OK {
		return api.Context{}, err
	}
	cloud, err := dot.Read(dots)
	if err != api.OK {
		return api.Context{}, err
	}
	for i, d := range cloud {
		gap := v[d.Replica] + 1
		if i > 0 && cloud[i-1].Replica == d.Replica {
			gap = 0 // The first one told whether there is a gap.
		}
		if d.N <= gap {
			return api.Context{}, api.ErrForm
		}
	}
	return api.Context{V: v, Cloud: cloud}, api.OK
}

// readsPlainly fails unless Read answers what the promise says, and Put puts it again.
func readsPlainly(t *testing.T, s string) {
	t.Helper()
	c, err := causal.Read(s)
	want, wantErr := plainRead(s)
	if !same(c, want) || err != wantErr {
		t.Fatalf("Read of %.100q = %.100v, error %d; want %.100v, error %d", s, c, err, want, wantErr)
	}
	if err != api.OK {
		return
	}
	if again, err := causal.Put(c); again != s || err != api.OK {
		t.Fatalf("Put of %.100v = %.100q, error %d; want %.100q", c, again, err, s)
	}
}

// Each vector stands ahead of all short texts over some bytes.
func TestReadOfAllShortTexts(t *testing.T) {
	for _, v := range []api.Vector{{}, {0, 1}, all(2), {15: api.MaxCount + 1}} {
		for s := range plainly.Words("\x00\x01\x02\x03\x0f\x10\x80", 5) {
			readsPlainly(t, vectorBytes(v)+plainly.Text(s))
		}
	}
}

// A context that was read is nobody else's.
func TestReadAnswersNewLists(t *testing.T) {
	s := plainly.Context(of(all(5), at(3, 7), at(4, 9)))
	a, _ := causal.Read(s)
	b, _ := causal.Read(s)
	clear(a.Cloud)
	if want := []api.Dot{at(3, 7), at(4, 9)}; !slices.Equal(b.Cloud, want) {
		t.Errorf("Read = %v behind a change of another list; want %v", b.Cloud, want)
	}
}

// Whatever is read without an error is what is put again, and all errors are those of the promise.
func FuzzOneForm(f *testing.F) {
	f.Add("")
	for _, c := range append(clean(), unclean()...) {
		if slices.IndexFunc(c.Cloud, func(d api.Dot) bool { return d.Replica < 0 || d.N < 0 }) < 0 {
			f.Add(plainly.Context(c))
		}
	}
	f.Add(vectorBytes(all(0)) + "\x00")
	f.Add(vectorBytes(all(0)) + "\x02\x81\x20")
	f.Add(vectorBytes(all(api.MaxNum)) + "\x01\x00")
	f.Fuzz(readsPlainly)
}
