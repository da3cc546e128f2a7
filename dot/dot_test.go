package dot_test

import (
	"math"
	"slices"
	"testing"

	"almonry/api"
	"almonry/dot"
	"almonry/plainly"
)

// at is the name of a replica's update.
func at(replica, n int) api.Dot { return api.Dot{Replica: replica, N: n} }

// good are n names that rise.
func good(n int) []api.Dot {
	var l []api.Dot
	for i := range n {
		l = append(l, at(i*api.Replicas/n, 300*i+1))
	}
	return l
}

// with is l, but with d at a place.
func with(l []api.Dot, place int, d api.Dot) []api.Dot {
	l = slices.Clone(l)
	l[place] = d
	return l
}

// edges are numbers at which something may go over.
func edges() []int {
	return []int{
		math.MinInt, math.MinInt + 1, -api.MaxCount, -1, 0, 1, 2, 15, 16, 127, 128,
		api.MaxCount - 1, api.MaxCount, api.MaxCount + 1, api.MaxNum, math.MaxInt - 1, math.MaxInt,
	}
}

// wrongDots are some that are no names.
func wrongDots() []api.Dot {
	return []api.Dot{
		at(0, 0), at(15, 0), at(16, 0), at(-1, 1), at(16, 1), at(17, 5), at(-1, -1), at(3, -1), at(1<<32, 1), at(16, api.MaxCount),
		at(0, api.MaxCount+1), at(15, api.MaxCount+1), at(0, api.MaxNum), at(0, api.MaxNum+1), at(api.MaxNum+1, 1),
		at(0, math.MaxInt), at(0, math.MinInt), at(math.MaxInt, 1), at(math.MinInt, 1), at(math.MinInt, math.MinInt),
	}
}

// puts fails unless Put answers want, and Read reads it again.
func puts(t *testing.T, l []api.Dot, want string) {
	t.Helper()
	if s, err := dot.Put(l); s != want || err != api.OK {
		t.Errorf("Put of %d, %.60v, = %.60q, error %d; want %.60q", len(l), l, s, err, want)
	}
	if got, err := dot.Read(want); !slices.Equal(got, l) || err != api.OK {
		t.Errorf("Read of %.60q = %d, %.60v, error %d; want %d, %.60v", want, len(got), got, err, len(l), l)
	}
}

// notPut fails unless Put answers this error, and nothing beside it.
func notPut(t *testing.T, l []api.Dot, want api.Errno) {
	t.Helper()
	if s, err := dot.Put(l); s != "" || err != want {
		t.Errorf("Put of %d, %.60v, = %.60q, error %d; want error %d alone", len(l), l, s, err, want)
	}
}

// notRead fails unless Read answers this error, and nothing beside it.
func notRead(t *testing.T, s string, want api.Errno) {
	t.Helper()
	if l, err := dot.Read(s); len(l) != 0 || err != want {
		t.Errorf("Read of %d bytes, %.60q, = %.60v, error %d; want error %d alone", len(s), s, l, err, want)
	}
}

// Promise 11.1: Check.

func TestCheckTakesEachName(t *testing.T) {
	for replica := range api.Replicas {
		for _, n := range []int{1, 2, 128, api.MaxNum >> 20, api.MaxCount - 1, api.MaxCount} {
			if err := dot.Check(at(replica, n)); err != api.OK {
				t.Errorf("Check of %d %d = error %d", replica, n, err)
			}
		}
	}
}

func TestCheckRefusesWhatIsNoName(t *testing.T) {
	for _, d := range wrongDots() {
		if err := dot.Check(d); err != api.ErrRange {
			t.Errorf("Check of %v = error %d; want ErrRange", d, err)
		}
	}
	for _, replica := range edges() {
		for _, n := range edges() {
			isName := replica >= 0 && replica <= 15 && n >= 1 && n <= 1<<40
			if err := dot.Check(at(replica, n)); (err == api.OK) != isName {
				t.Errorf("Check of %d %d = error %d", replica, n, err)
			}
		}
	}
}

// Promise 11.1: Less.

func TestLessIsByReplicaThenN(t *testing.T) {
	for _, c := range []struct {
		a, b api.Dot
		want bool
	}{
		{at(0, 9), at(1, 1), true},
		{at(1, 1), at(0, 9), false},
		{at(2, 3), at(2, 4), true},
		{at(2, 4), at(2, 3), false},
		{at(2, 3), at(2, 3), false},
		{at(0, 0), at(0, 0), false},
		{at(9, 1), at(10, 1), true},
		{at(0, api.MaxCount), at(15, 1), true},
		{at(0, 127), at(0, 128), true},
		{at(-1, 5), at(0, 1), true},
		{at(0, -1), at(0, 1), true},
		{at(math.MinInt, 1), at(math.MaxInt, 1), true},
		{at(math.MaxInt, 1), at(math.MinInt, 1), false},
		{at(0, math.MinInt), at(0, math.MaxInt), true},
		{at(0, math.MaxInt), at(0, math.MinInt), false},
	} {
		if got := dot.Less(c.a, c.b); got != c.want {
			t.Errorf("Less(%v, %v) = %t", c.a, c.b, got)
		}
	}
}

func TestLessAtTheEdges(t *testing.T) {
	// Edges rise, so that what is ahead is told by the places alone.
	for i, r := range edges() {
		for j, n := range edges() {
			for k, s := range edges() {
				for m, o := range edges() {
					want := i < k || i == k && j < m
					if got := dot.Less(at(r, n), at(s, o)); got != want {
						t.Fatalf("Less(%d %d, %d %d) = %t", r, n, s, o, got)
					}
				}
			}
		}
	}
}

// Promise 11.1: Sort.

func TestSortListsEachOnceRising(t *testing.T) {
	for _, c := range []struct{ l, want []api.Dot }{
		{nil, nil},
		{[]api.Dot{}, nil},
		{[]api.Dot{at(1, 2)}, []api.Dot{at(1, 2)}},
		{[]api.Dot{{}}, []api.Dot{{}}},
		{[]api.Dot{at(1, 2), at(0, 3), at(1, 2)}, []api.Dot{at(0, 3), at(1, 2)}},
		{[]api.Dot{at(4, 4), at(4, 4), at(4, 4)}, []api.Dot{at(4, 4)}},
		{[]api.Dot{at(0, 1), at(0, 2), at(1, 1)}, []api.Dot{at(0, 1), at(0, 2), at(1, 1)}},
		{[]api.Dot{at(2, 1), at(1, 2), at(1, 1), at(2, 1), at(1, 2)}, []api.Dot{at(1, 1), at(1, 2), at(2, 1)}},
		{[]api.Dot{at(10, 1), at(9, 1), at(2, 10), at(2, 9)}, []api.Dot{at(2, 9), at(2, 10), at(9, 1), at(10, 1)}},
		{[]api.Dot{at(1, 2), at(2, 1), at(2, 2), at(1, 1)}, []api.Dot{at(1, 1), at(1, 2), at(2, 1), at(2, 2)}},
	} {
		if got := dot.Sort(c.l); !slices.Equal(got, c.want) {
			t.Errorf("Sort(%v) = %v; want %v", c.l, got, c.want)
		}
	}
}

// plainSort takes the one that is ahead of all that are left, again and again.
func plainSort(l []api.Dot) []api.Dot {
	var out []api.Dot
	for left := slices.Clone(l); len(left) > 0; {
		first := left[0]
		for _, d := range left {
			if d.Replica < first.Replica || d.Replica == first.Replica && d.N < first.N {
				first = d
			}
		}
		out = append(out, first)
		left = slices.DeleteFunc(left, func(d api.Dot) bool { return d == first })
	}
	return out
}

func TestSortTakesWhatIsNoName(t *testing.T) {
	l := append(wrongDots(), wrongDots()...)
	for _, r := range edges() {
		l = append(l, at(-r, 1), at(r, 1), at(0, r), at(1, -r))
	}
	if got, want := dot.Sort(l), plainSort(l); !slices.Equal(got, want) {
		t.Errorf("Sort = %v; want %v", got, want)
	}
}

func TestSortOfManyLists(t *testing.T) {
	state := uint32(1)
	next := func(n int) int {
		state = state*1664525 + 1013904223
		return int(state>>8) % n
	}
	for size := range 150 {
		var l []api.Dot
		for range size {
			l = append(l, at(next(5), next(1+size/2)))
		}
		kept := slices.Clone(l)
		if got, want := dot.Sort(l), plainSort(l); !slices.Equal(got, want) {
			t.Fatalf("Sort(%v) = %v; want %v", l, got, want)
		}
		if !slices.Equal(l, kept) {
			t.Fatalf("Sort changed what was handed in: %v; want %v", l, kept)
		}
	}
}

// A list may be longer than one that is put.
func TestSortOfALongList(t *testing.T) {
	want := good(5 * api.MaxList)
	l := slices.Concat(want, want)
	slices.Reverse(l)
	if got := dot.Sort(l); !slices.Equal(got, want) {
		t.Errorf("Sort of %d = %d; want %d", len(l), len(got), len(want))
	}
}

func TestSortAnswersAListOfItsOwn(t *testing.T) {
	for _, l := range [][]api.Dot{
		{at(1, 1), at(2, 2), at(3, 3)},
		{at(3, 3), at(2, 2), at(1, 1)},
		{at(2, 2), at(2, 2), at(1, 1)},
	} {
		// Room behind the list is not written to either.
		room := append(slices.Clone(l), at(7, 7), at(8, 8))
		in := room[:len(l)]
		got := dot.Sort(in)
		want := slices.Clone(got)
		if !slices.Equal(room, append(slices.Clone(l), at(7, 7), at(8, 8))) {
			t.Errorf("Sort(%v) changed what was handed in: %v", l, room)
		}
		clear(room)
		if !slices.Equal(got, want) {
			t.Errorf("Sort(%v) hangs on what was handed in: %v; want %v", l, got, want)
		}
	}
}

// Promise 11.1: Put.

func TestPutPutsCountAndNames(t *testing.T) {
	puts(t, nil, "\x00")
	puts(t, []api.Dot{}, "\x00")
	puts(t, []api.Dot{at(0, 1)}, "\x01\x00\x01")
	puts(t, []api.Dot{at(0, 3), at(1, 2)}, "\x02\x00\x03\x01\x02")
	puts(t, []api.Dot{at(2, 3), at(2, 4)}, "\x02\x02\x03\x02\x04")
	puts(t, []api.Dot{at(15, 300)}, "\x01\x0f\xac\x02")
	puts(t, []api.Dot{at(15, api.MaxCount)}, "\x01\x0f\x80\x80\x80\x80\x80\x20")
	puts(t, []api.Dot{at(0, 1), at(0, api.MaxCount), at(1, 1), at(15, 127), at(15, 128)},
		"\x05\x00\x01\x00\x80\x80\x80\x80\x80\x20\x01\x01\x0f\x7f\x0f\x80\x01")
	for _, n := range []int{16, 127, 128, 129, 1000, api.MaxList - 1, api.MaxList} {
		puts(t, good(n), plainly.Dots(good(n)...))
	}
}

func TestPutRefusesTooMany(t *testing.T) {
	for _, n := range []int{api.MaxList + 1, api.MaxList + 128, 2 * api.MaxList} {
		notPut(t, good(n), api.ErrLong)
	}
	many := good(api.MaxList + 1)
	notPut(t, with(many, 0, at(16, 1)), api.ErrLong)
	notPut(t, with(many, api.MaxList, at(0, 0)), api.ErrLong)
	notPut(t, with(many, api.MaxList, many[0]), api.ErrLong)
	notPut(t, make([]api.Dot, api.MaxList+1), api.ErrLong)
}

func TestPutRefusesWhatIsNoName(t *testing.T) {
	for _, d := range wrongDots() {
		notPut(t, []api.Dot{d}, api.ErrRange)
		for place := range 4 {
			notPut(t, with(good(4), place, d), api.ErrRange)
		}
		notPut(t, with(good(api.MaxList), api.MaxList-1, d), api.ErrRange)
	}
}

// unordered are lists of names that do not rise.
func unordered() [][]api.Dot {
	l := [][]api.Dot{
		{at(1, 2), at(0, 3)},
		{at(1, 2), at(1, 1)},
		{at(1, 2), at(1, 2)},
		{at(0, 1), at(0, 1)},
		{at(15, api.MaxCount), at(15, api.MaxCount)},
		{at(15, 1), at(0, 1)},
		{at(0, 1), at(0, 3), at(0, 2)},
		{at(0, 2), at(0, 1), at(0, 3)},
		{at(0, 1), at(1, 1), at(0, 1)},
		{at(0, 1), at(1, 1), at(0, 2)},
	}
	all := good(40)
	for i := range len(all) - 1 {
		turned := slices.Clone(all)
		turned[i], turned[i+1] = turned[i+1], turned[i]
		l = append(l, turned, with(all, i, all[i+1]), with(all, i+1, all[i]))
	}
	full := good(api.MaxList)
	return append(l, with(full, api.MaxList-1, full[api.MaxList-2]), with(full, 0, full[1]))
}

func TestPutAndReadRefuseWhatDoesNotRise(t *testing.T) {
	for _, l := range unordered() {
		notPut(t, l, api.ErrForm)
		notRead(t, plainly.Dots(l...), api.ErrForm)
	}
}

// Each is asked by Check ahead of the first one's asking whether it rises.
func TestPutAndReadCheckAllAheadOfTheirOrder(t *testing.T) {
	for _, d := range []api.Dot{at(16, 1), at(15, 0), at(0, 0), at(0, api.MaxCount+1), at(api.MaxNum, api.MaxNum)} {
		for _, l := range unordered() {
			l = append(slices.Clone(l[:min(len(l), 100)]), d)
			notPut(t, l, api.ErrRange)
			notRead(t, plainly.Dots(l...), api.ErrRange)
		}
	}
}

func TestPutLeavesWhatIsHandedIn(t *testing.T) {
	for _, l := range [][]api.Dot{good(9), {at(1, 2), at(0, 3)}, {at(16, 1), at(0, 3)}} {
		kept := slices.Clone(l)
		dot.Put(l)
		if !slices.Equal(l, kept) {
			t.Errorf("the list was changed: %v; want %v", l, kept)
		}
	}
}

// Promise 11.1: Read.

func TestReadRefusesWrongNumbers(t *testing.T) {
	for _, c := range []struct {
		s    string
		want api.Errno
	}{
		{"\x80", api.ErrCut},
		{"\xff\xff\xff\xff\xff\xff\xff\xff\xff", api.ErrCut},
		{"\x80\x00", api.ErrForm},
		{"\x81\x00", api.ErrForm},
		{"\x81\x80\x80\x80\x80\x80\x80\x10", api.ErrRange},
		{"\x80\x80\x80\x80\x80\x80\x80\x80\x01", api.ErrRange},
		{"\x80\x80\x80\x80\x80\x80\x80\x80\x00", api.ErrRange},
	} {
		for _, ahead := range []string{"", "\x01", "\x01\x00", "\x02\x00\x01", "\x02\x00\x01\x00", "\x02\x10\x00\x01", "\x03\x01\x01\x00\x01"} {
			notRead(t, ahead+c.s, c.want)
			if c.want != api.ErrCut {
				notRead(t, ahead+c.s+"\x01\x01\x01", c.want)
			}
		}
	}
}

func TestReadRefusesWhatIsCut(t *testing.T) {
	notRead(t, "", api.ErrCut)
	for _, l := range [][]api.Dot{{at(0, 1)}, {at(15, api.MaxCount)}, good(3), good(200)} {
		s := plainly.Dots(l...)
		for n := range len(s) {
			notRead(t, s[:n], api.ErrCut)
		}
	}
	full := plainly.Dots(good(api.MaxList)...)
	notRead(t, full[:len(full)-1], api.ErrCut)
	notRead(t, full[:2], api.ErrCut)
}

func TestReadRefusesWhatIsLeft(t *testing.T) {
	for _, l := range [][]api.Dot{nil, {at(0, 1)}, good(3), good(api.MaxList)} {
		for _, more := range []string{"\x00", "\x0f\x01", "\xff", "\x80\x80"} {
			notRead(t, plainly.Dots(l...)+more, api.ErrForm)
		}
	}
}

func TestReadTellsTooManyAsSoonAsTheirNumberIsRead(t *testing.T) {
	for _, n := range []int{api.MaxList + 1, api.MaxList + 128, api.MaxText, api.MaxCount, api.MaxNum} {
		for _, behind := range []string{"", "\x00", "\x00\x01", "\x80", "\x80\x00", "\x10\x00", "\x00\x01\x00\x01"} {
			notRead(t, plainly.Number(n)+behind, api.ErrLong)
		}
	}
	notRead(t, plainly.Dots(good(api.MaxList+1)...), api.ErrLong)
	notRead(t, plainly.Dots(good(api.MaxList+1)...)+"\x00", api.ErrLong)
}

func TestReadRefusesWhatIsNoName(t *testing.T) {
	for _, d := range wrongDots() {
		if d.Replica < 0 || d.Replica > api.MaxNum || d.N < 0 || d.N > api.MaxNum {
			continue
		}
		notRead(t, plainly.Dots(d), api.ErrRange)
		for place := range 4 {
			notRead(t, plainly.Dots(with(good(4), place, d)...), api.ErrRange)
		}
	}
}

// What layer 1 tells of all bytes comes ahead of Check's error, and of the order.
func TestReadTellsErrorsInTheirOrder(t *testing.T) {
	notRead(t, "\x02\x10\x01\x00", api.ErrCut)
	notRead(t, "\x03\x01\x01\x00\x01\x02", api.ErrCut)
	notRead(t, "\x01\x10\x01\x00", api.ErrForm)
	notRead(t, "\x02\x10\x01\x80\x00\x01", api.ErrForm)
	notRead(t, "\x02\x01\x01\x01\x01\x00", api.ErrForm)
	notRead(t, "\x03\x01\x01\x00\x01\x10\x01", api.ErrRange)
	notRead(t, "\x02\x10\x00\x10\x00", api.ErrRange)
}

// plainRead is what promise 11.1 says that Read answers.
func plainRead(s string) ([]api.Dot, api.Errno) {
	count, s, err := plainly.TakeNumber(s)
	if err != api.OK {
		return nil, err
	}
	if count > 4096 {
		return nil, api.ErrLong
	}
	var l []api.Dot
	for len(l) < count {
		var d api.Dot
		if d.Replica, s, err = plainly.TakeNumber(s); err != api.OK {
			return nil, err
		}
		if d.N, s, err = plainly.TakeNumber(s); err != api.OK {
			return nil, err
		}
		l = append(l, d)
	}
	if s != "" {
		return nil, api.ErrForm
	}
	for _, d := range l {
		if d.Replica > 15 || d.N == 0 || d.N > 1<<40 {
			return nil, api.ErrRange
		}
	}
	if !slices.Equal(l, plainSort(l)) {
		return nil, api.ErrForm
	}
	return l, api.OK
}

// readsPlainly fails unless Read answers what the promise says, and Put puts it again.
func readsPlainly(t *testing.T, s string) {
	t.Helper()
	l, err := dot.Read(s)
	want, wantErr := plainRead(s)
	if !slices.Equal(l, want) || err != wantErr {
		t.Fatalf("Read of %.60q = %.60v, error %d; want %.60v, error %d", s, l, err, want, wantErr)
	}
	if err != api.OK {
		return
	}
	if again, err := dot.Put(l); again != s || err != api.OK {
		t.Fatalf("Put of %.60v = %.60q, error %d; want %.60q", l, again, err, s)
	}
}

func TestReadOfAllShortBytes(t *testing.T) {
	for s := range plainly.Words("\x00\x01\x02\x03\x0f\x10\x80\x81", 6) {
		readsPlainly(t, s)
	}
}

// A list that was read is nobody else's.
func TestReadAnswersNewLists(t *testing.T) {
	s := plainly.Numbers(2, 0, 3, 1, 2)
	a, _ := dot.Read(s)
	b, _ := dot.Read(s)
	clear(a)
	if want := []api.Dot{at(0, 3), at(1, 2)}; !slices.Equal(b, want) {
		t.Errorf("Read = %v behind a change of another list; want %v", b, want)
	}
}

// Whatever is read without an error is what is put again, and all errors are those of the promise.
func FuzzOneForm(f *testing.F) {
	f.Add("")
	f.Add("\x02\x00\x03\x01\x02")
	f.Add("\x01\x0f\x80\x80\x80\x80\x80\x20")
	f.Add("\x81\x20")
	f.Add("\x02\x10\x01\x80\x00\x01")
	f.Add("\x03\x01\x01\x00\x01\x10\x01")
	f.Fuzz(readsPlainly)
}
