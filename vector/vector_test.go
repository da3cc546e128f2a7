package vector_test

import (
	"math"
	"strings"
	"testing"

	"almonry/api"
	"almonry/dot"
	"almonry/plainly"
	"almonry/vector"
	"almonry/wire"
)

// all is n at each place.
func all(n int) api.Vector {
	var v api.Vector
	for i := range v {
		v[i] = n
	}
	return v
}

// with is v, but with n at a place.
func with(v api.Vector, place, n int) api.Vector {
	v[place] = n
	return v
}

// counts are numbers that a place may have.
func counts() []int {
	return []int{0, 1, 2, 15, 16, 127, 128, 300, 1<<32 + 5, api.MaxCount - 1, api.MaxCount}
}

// wrongCounts are numbers that no place may have.
func wrongCounts() []int {
	return []int{math.MinInt, -api.MaxCount, -1, api.MaxCount + 1, 2 * api.MaxCount, api.MaxNum, api.MaxNum + 1, math.MaxInt}
}

// edges are numbers at which something may go over, rising.
func edges() []int {
	return []int{
		math.MinInt, math.MinInt + 1, -api.MaxCount, -1, 0, 1, 2, 127, 128,
		api.MaxCount - 1, api.MaxCount, api.MaxCount + 1, api.MaxNum, math.MaxInt - 1, math.MaxInt,
	}
}

// puts fails unless Put answers want, and Read reads it again.
func puts(t *testing.T, v api.Vector, want string) {
	t.Helper()
	if s, err := vector.Put(v); s != want || err != api.OK {
		t.Errorf("Put of %v = %q, error %d; want %q", v, s, err, want)
	}
	if got, err := vector.Read(want); got != v || err != api.OK {
		t.Errorf("Read of %q = %v, error %d; want %v", want, got, err, v)
	}
}

// notRead fails unless Read answers this error, and the zero vector beside it.
func notRead(t *testing.T, s string, want api.Errno) {
	t.Helper()
	if v, err := vector.Read(s); v != (api.Vector{}) || err != want {
		t.Errorf("Read of %q = %v, error %d; want error %d alone", s, v, err, want)
	}
}

// Promise 12.1: Check.

func TestCheckTakesEachCount(t *testing.T) {
	for _, n := range counts() {
		for place := range api.Replicas {
			for _, others := range []int{0, 7, api.MaxCount} {
				if err := vector.Check(with(all(others), place, n)); err != api.OK {
					t.Errorf("Check of %d at %d, beside %d = error %d", n, place, others, err)
				}
			}
		}
	}
}

func TestCheckRefusesWhatIsNoCount(t *testing.T) {
	for _, n := range wrongCounts() {
		for place := range api.Replicas {
			for _, others := range []int{0, 7, api.MaxCount, -1} {
				if err := vector.Check(with(all(others), place, n)); err != api.ErrRange {
					t.Errorf("Check of %d at %d, beside %d = error %d; want ErrRange", n, place, others, err)
				}
			}
		}
	}
}

// Promise 12.1: Join, Meet.

func TestJoinAndMeet(t *testing.T) {
	a := api.Vector{1, 5, 0, 7, -2, 6, 0, 9, 1, 2, 3, 4, 5, 6, 7, 8}
	b := api.Vector{3, 2, 0, 8, -3, 6, 1, 0, 8, 7, 6, 5, 4, 3, 2, 1}
	greater := api.Vector{3, 5, 0, 8, -2, 6, 1, 9, 8, 7, 6, 5, 5, 6, 7, 8}
	smaller := api.Vector{1, 2, 0, 7, -3, 6, 0, 0, 1, 2, 3, 4, 4, 3, 2, 1}
	if got := vector.Join(a, b); got != greater {
		t.Errorf("Join = %v; want %v", got, greater)
	}
	if got := vector.Join(b, a); got != greater {
		t.Errorf("Join the other way = %v; want %v", got, greater)
	}
	if got := vector.Meet(a, b); got != smaller {
		t.Errorf("Meet = %v; want %v", got, smaller)
	}
	if got := vector.Meet(b, a); got != smaller {
		t.Errorf("Meet the other way = %v; want %v", got, smaller)
	}
}

// Numbers that Check refuses are joined and met as all others are.
func TestJoinAndMeetAtTheEdges(t *testing.T) {
	e := edges()
	for place := range api.Replicas {
		for i := range e {
			for j := range e {
				// Edges rise, so that the greater one is told by the places alone.
				low, high := e[min(i, j)], e[max(i, j)]
				a, b := with(all(3), place, e[i]), with(all(4), place, e[j])
				if got, want := vector.Join(a, b), with(all(4), place, high); got != want {
					t.Fatalf("Join(%v, %v) = %v; want %v", a, b, got, want)
				}
				if got, want := vector.Meet(a, b), with(all(3), place, low); got != want {
					t.Fatalf("Meet(%v, %v) = %v; want %v", a, b, got, want)
				}
			}
		}
	}
}

// Promise 12.1: Compare.

// compares fails unless Compare answers want, and its turn the other way round.
func compares(t *testing.T, a, b api.Vector, want int) {
	t.Helper()
	if got := vector.Compare(a, b); got != want {
		t.Errorf("Compare(%v, %v) = %d; want %d", a, b, got, want)
	}
	turned := want
	if want == 1 || want == -1 {
		turned = -want
	}
	if got := vector.Compare(b, a); got != turned {
		t.Errorf("Compare(%v, %v) = %d; want %d", b, a, got, turned)
	}
}

func TestCompare(t *testing.T) {
	compares(t, api.Vector{}, api.Vector{}, 0)
	compares(t, all(5), all(5), 0)
	compares(t, all(4), all(5), -1)
	compares(t, api.Vector{1}, api.Vector{0, 1}, 2)
	compares(t, api.Vector{1, 2}, api.Vector{1, 3}, -1)
	compares(t, api.Vector{1, 2, 3}, api.Vector{3, 2, 1}, 2)
	compares(t, api.Vector{}, all(api.MaxCount), -1)
	compares(t, all(math.MinInt), all(math.MaxInt), -1)
	compares(t, with(all(math.MaxInt), 9, math.MinInt), with(all(math.MinInt), 9, math.MaxInt), 2)
	compares(t, all(-1), api.Vector{}, -1)
}

func TestCompareOfEachPlace(t *testing.T) {
	for i := range api.Replicas {
		for _, n := range edges() {
			compares(t, with(all(3), i, n), with(all(3), i, n), 0)
			if n > math.MinInt {
				compares(t, with(all(3), i, n-1), with(all(3), i, n), -1)
				compares(t, with(all(3), i, math.MinInt), with(all(3), i, n), -1)
				compares(t, with(all(2), i, n-1), with(all(3), i, n), -1)
				compares(t, with(all(2), i, n), with(all(3), i, n-1), 2)
			}
			compares(t, with(all(2), i, n), with(all(3), i, n), -1)
		}
		for j := range i {
			compares(t, with(all(7), i, 6), with(all(7), j, 6), 2)
			compares(t, with(all(7), i, 6), with(with(all(7), i, 5), j, 6), 1)
		}
	}
}

// few are all vectors of -1, 0 and 1 at these places.
func few(places ...int) []api.Vector {
	l := []api.Vector{{}}
	for _, place := range places {
		var next []api.Vector
		for _, v := range l {
			next = append(next, with(v, place, -1), v, with(v, place, 1))
		}
		l = next
	}
	return l
}

// plainCompare is what promise 12.1 says that Compare answers, place by place.
func plainCompare(a, b api.Vector) int {
	less, more := 0, 0
	for i := range a {
		if a[i] < b[i] {
			less++
		}
		if a[i] > b[i] {
			more++
		}
	}
	switch {
	case less == 0 && more == 0:
		return 0
	case more == 0:
		return -1
	case less == 0:
		return 1
	}
	return 2
}

func TestCompareOfAllPairs(t *testing.T) {
	l := few(0, 1, 8, 15)
	for _, a := range l {
		for _, b := range l {
			if got, want := vector.Compare(a, b), plainCompare(a, b); got != want {
				t.Fatalf("Compare(%v, %v) = %d; want %d", a, b, got, want)
			}
		}
	}
}

// Promise 12.1: Has.

func TestHasCountsItsReplicaAlone(t *testing.T) {
	for replica := range api.Replicas {
		for _, n := range []int{1, 2, 127, 128, 1<<32 + 5, api.MaxCount - 1, api.MaxCount} {
			for _, others := range []int{0, api.MaxCount, math.MinInt, math.MaxInt} {
				d := api.Dot{Replica: replica, N: n}
				for count, want := range map[int]bool{
					n: true, n + 1: true, n - 1: false, 0: false, api.MaxCount: true,
					-n: false, math.MinInt: false, math.MaxInt: true,
				} {
					if got := vector.Has(with(all(others), replica, count), d); got != want {
						t.Errorf("Has of %v where %d are there, beside %d = %t", d, count, others, got)
					}
				}
			}
		}
	}
}

func TestHasAsksTheName(t *testing.T) {
	for _, v := range []api.Vector{{}, all(1), all(api.MaxCount), all(math.MaxInt), all(math.MinInt)} {
		for _, replica := range append(edges(), 3, 15, 16, 17) {
			for _, n := range edges() {
				d := api.Dot{Replica: replica, N: n}
				want := dot.Check(d) == api.OK && n <= v[0]
				if got := vector.Has(v, d); got != want {
					t.Errorf("Has(%v, %v) = %t", v, d, got)
				}
			}
		}
	}
}

// Promise 12.1: Put, and Read of what was put.

func TestPut(t *testing.T) {
	puts(t, api.Vector{}, strings.Repeat("\x00", 16))
	puts(t, all(127), strings.Repeat("\x7f", 16))
	puts(t, all(128), strings.Repeat("\x80\x01", 16))
	puts(t, all(api.MaxCount), strings.Repeat("\x80\x80\x80\x80\x80\x20", 16))
	puts(t, api.Vector{1}, "\x01"+strings.Repeat("\x00", 15))
	puts(t, api.Vector{1, 300, 3, 4, 5, 6, 7, 8, 9, 10, 11, 12, 13, 14, 15, 128},
		"\x01\xac\x02\x03\x04\x05\x06\x07\x08\x09\x0a\x0b\x0c\x0d\x0e\x0f\x80\x01")
}

func TestPutOfEachPlace(t *testing.T) {
	for place := range api.Replicas {
		for _, n := range counts() {
			puts(t, with(all(5), place, n), strings.Repeat("\x05", place)+plainly.Number(n)+strings.Repeat("\x05", 15-place))
		}
	}
}

func TestPutRefusesWhatIsNoCount(t *testing.T) {
	for place := range api.Replicas {
		for _, n := range wrongCounts() {
			if s, err := vector.Put(with(all(5), place, n)); s != "" || err != api.ErrRange {
				t.Errorf("Put of %d at %d = %q, error %d; want ErrRange alone", n, place, s, err)
			}
		}
	}
}

// Promise 12.1: Read of what was not put.

func TestReadRefusesWrongNumbers(t *testing.T) {
	for place := range api.Replicas {
		ahead, behind := strings.Repeat("\x05", place), strings.Repeat("\x05", 15-place)
		for s, want := range plainly.WrongNumbers() {
			notRead(t, ahead+s+behind, want)
			notRead(t, ahead+s+behind+"\x00", want)
			notRead(t, ahead+s, want)
		}
		// What has no end is cut, however long it is.
		notRead(t, ahead+"\x80", api.ErrCut)
		notRead(t, ahead+"\xff\xff\xff\xff\xff\xff\xff\xff\xff", api.ErrCut)
	}
}

func TestReadRefusesWhatIsCut(t *testing.T) {
	for _, n := range counts() {
		s := strings.Repeat(plainly.Number(n), 16)
		for size := range len(s) {
			notRead(t, s[:size], api.ErrCut)
		}
	}
}

func TestReadRefusesWhatIsLeft(t *testing.T) {
	for _, n := range counts() {
		s := strings.Repeat(plainly.Number(n), 16)
		for _, left := range []string{"\x00", "\x01", "x", "\x80", "\x80\x00", "\xff", s} {
			notRead(t, s+left, api.ErrForm)
		}
	}
}

func TestReadRefusesWhatIsNoCount(t *testing.T) {
	for place := range api.Replicas {
		for _, n := range []int{api.MaxCount + 1, 2 * api.MaxCount, api.MaxNum - 1, api.MaxNum} {
			ahead, behind := strings.Repeat("\x05", place)+plainly.Number(n), strings.Repeat("\x05", 15-place)
			notRead(t, ahead+behind, api.ErrRange)
			// What layer 1 tells of all bytes comes ahead of Check's error.
			notRead(t, ahead+behind+"\x00", api.ErrForm)
			if behind != "" {
				notRead(t, ahead+behind[1:], api.ErrCut)
				notRead(t, ahead+behind[1:]+"\x80\x00", api.ErrForm)
			}
		}
	}
}

// plainRead is what promise 12.1 says that Read answers: each number is cut out, and given to layer 1 alone.
func plainRead(s string) (api.Vector, api.Errno) {
	var v api.Vector
	for i := range v {
		end := 0
		for end < len(s) && s[end] >= 128 {
			end++
		}
		end = min(end+1, len(s))
		r := wire.New(s[:end])
		v[i], s = r.Num(), s[end:]
		if r.Err() != api.OK {
			return api.Vector{}, r.Err()
		}
	}
	if s != "" {
		return api.Vector{}, api.ErrForm
	}
	for _, n := range v {
		if n > 1<<40 {
			return api.Vector{}, api.ErrRange
		}
	}
	return v, api.OK
}

// readsPlainly fails unless Read answers what the promise says, and Put puts it again.
func readsPlainly(t *testing.T, s string) {
	t.Helper()
	v, err := vector.Read(s)
	if want, wantErr := plainRead(s); v != want || err != wantErr {
		t.Fatalf("Read of %q = %v, error %d; want %v, error %d", s, v, err, want, wantErr)
	}
	if err != api.OK {
		return
	}
	if again, err := vector.Put(v); again != s || err != api.OK {
		t.Fatalf("Put of %v = %q, error %d; want %q", v, again, err, s)
	}
}

// Each two places have each two of some bytes, right and wrong, and what is left has some too.
func TestReadOfAllPairsOfFaults(t *testing.T) {
	parts := []string{"", "\x00", "\x7f", "\x80", plainly.Number(api.MaxCount), plainly.Number(api.MaxCount + 1), plainly.Number(api.MaxNum)}
	for s := range plainly.WrongNumbers() {
		parts = append(parts, s)
	}
	for i := range api.Replicas {
		for j := range i {
			for _, a := range parts {
				for _, b := range parts {
					s := strings.Repeat("\x05", j) + a + strings.Repeat("\x06", i-j-1) + b + strings.Repeat("\x07", 15-i)
					readsPlainly(t, s)
					readsPlainly(t, s+"\x00")
					readsPlainly(t, s+"\x80")
				}
			}
		}
	}
}

// Whatever is read without an error is what is put again, and all errors are those of the promise.
func FuzzOneForm(f *testing.F) {
	f.Add("")
	f.Add(strings.Repeat("\x00", 16))
	f.Add(strings.Repeat("\x00", 17))
	f.Add(strings.Repeat("\x80\x80\x80\x80\x80\x20", 16))
	f.Add(strings.Repeat("\x81\x80\x80\x80\x80\x20", 16))
	f.Add(strings.Repeat("\x05", 15) + "\x80\x00")
	f.Fuzz(readsPlainly)
}
