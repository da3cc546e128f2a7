package list_test

import (
	"cmp"
	"slices"
	"strings"
	"testing"

	"almonry/api"
	"almonry/list"
	"almonry/wire"
)

// The things of these tests are numbers: check takes 0 to 99 alone, all takes any, and they rise as numbers do.

func check(n int) api.Errno {
	switch {
	case n < 0:
		return api.ErrRange
	case n > 99:
		return api.ErrArg
	}
	return api.OK
}

func all(int) api.Errno { return api.OK }

func less(a, b int) bool { return a < b }

func take(r *wire.Reader) int { return r.Num() }

// upTo are the numbers below n.
func upTo(n int) []int {
	var l []int
	for i := range n {
		l = append(l, i)
	}
	return l
}

func TestCompare(t *testing.T) {
	for a := range 5 {
		for b := range 5 {
			if got, want := list.Compare(less, a, b), cmp.Compare(a, b); got != want {
				t.Errorf("Compare(%d, %d) = %d; want %d", a, b, got, want)
			}
		}
	}
	// What stands ahead is told by less alone.
	if got := list.Compare(func(a, b string) bool { return len(a) < len(b) }, "z", "aa"); got != -1 {
		t.Errorf("Compare of a short and a long text = %d; want -1", got)
	}
	if got := list.Compare(func(a, b string) bool { return len(a) < len(b) }, "z", "a"); got != 0 {
		t.Errorf("Compare of texts of one length = %d; want 0", got)
	}
}

func TestHas(t *testing.T) {
	// Each second number, and those between them.
	for size := range 40 {
		var l []int
		for i := range size {
			l = append(l, 2*i)
		}
		for n := -1; n <= 2*size; n++ {
			want := n >= 0 && n < 2*size && n%2 == 0
			if got := list.Has(l, less, n); got != want {
				t.Errorf("%d numbers have %d: %t", size, n, got)
			}
		}
	}
	// What stands in a list is told by less alone.
	shorter := func(a, b string) bool { return len(a) < len(b) }
	if l := []string{"a", "bcd"}; !list.Has(l, shorter, "xyz") || list.Has(l, shorter, "xy") {
		t.Errorf("Has of texts by their length = %t, %t", list.Has(l, shorter, "xyz"), list.Has(l, shorter, "xy"))
	}
}

func TestCheck(t *testing.T) {
	for _, c := range []struct {
		l    []int
		want api.Errno
	}{
		{nil, api.OK},
		{[]int{}, api.OK},
		{[]int{7}, api.OK},
		{[]int{0, 1, 99}, api.OK},
		{[]int{-1}, api.ErrRange},
		{[]int{100}, api.ErrArg},
		{[]int{5, 100, -1}, api.ErrArg},
		{[]int{5, -1, 100}, api.ErrRange},
		{[]int{1, 1}, api.ErrForm},
		{[]int{2, 1}, api.ErrForm},
		{[]int{1, 2, 2}, api.ErrForm},
		{[]int{1, 3, 2}, api.ErrForm},
		{[]int{2, 1, 3}, api.ErrForm},
		// Each is asked ahead of the first one's asking whether it rises.
		{[]int{2, 1, 100}, api.ErrArg},
		{[]int{1, 1, 1, -1}, api.ErrRange},
	} {
		if err := list.Check(c.l, check, less); err != c.want {
			t.Errorf("Check(%v) = error %d; want %d", c.l, err, c.want)
		}
	}
}

// A list is checked however long it is.
func TestCheckOfALongList(t *testing.T) {
	if err := list.Check(upTo(3*api.MaxList), all, less); err != api.OK {
		t.Errorf("Check of a long list = error %d", err)
	}
}

func TestLay(t *testing.T) {
	if s, err := list.Lay([]int{1, 300, 0}, wire.Num); s != "\x01\xac\x02\x00" || err != api.OK {
		t.Errorf("Lay of numbers = %q, error %d", s, err)
	}
	if s, err := list.Lay([]string{"x", "", "yz"}, wire.Text); s != "\x01x\x00\x02yz" || err != api.OK {
		t.Errorf("Lay of texts = %q, error %d", s, err)
	}
	if s, err := list.Lay(nil, wire.Num); s != "" || err != api.OK {
		t.Errorf("Lay of nothing = %q, error %d", s, err)
	}
}

// notLaid fails unless things are refused with this error, and nothing beside it.
func notLaid(t *testing.T, s string, err, want api.Errno) {
	t.Helper()
	if s != "" || err != want {
		t.Errorf("%.60q, error %d; want error %d alone", s, err, want)
	}
}

func TestLayTellsTheFirstError(t *testing.T) {
	for _, l := range [][]int{{-1}, {1, 2, -1}, {1, -1, 2}} {
		s, err := list.Lay(l, wire.Num)
		notLaid(t, s, err, api.ErrRange)
	}
	put := func(n int) (string, api.Errno) { return "", check(n) }
	s, err := list.Lay([]int{1, 100, -1}, put)
	notLaid(t, s, err, api.ErrArg)
}

func TestPutAndRead(t *testing.T) {
	for _, n := range []int{0, 1, 2, 99, 100, 127, 128, 1000, api.MaxList - 1, api.MaxList} {
		want, _ := list.Lay(append([]int{n}, upTo(n)...), wire.Num)
		if s, err := list.Put(upTo(n), all, less, wire.Num); s != want || err != api.OK {
			t.Errorf("Put of %d = %.60q, error %d; want %.60q", n, s, err, want)
		}
		if l, err := list.Read(want, all, less, take); !slices.Equal(l, upTo(n)) || err != api.OK {
			t.Errorf("Read of %d = %.60v, error %d", n, l, err)
		}
	}
}

func TestPutRefuses(t *testing.T) {
	many := upTo(api.MaxList + 1)
	for _, c := range []struct {
		l    []int
		want api.Errno
	}{
		{many, api.ErrLong},
		{append([]int{-1}, many...), api.ErrLong},
		{append(many, 0), api.ErrLong},
		{[]int{1, 100}, api.ErrArg},
		{[]int{2, 1, -1}, api.ErrRange},
		{[]int{2, 1}, api.ErrForm},
		{[]int{2, 2}, api.ErrForm},
	} {
		s, err := list.Put(c.l, check, less, wire.Num)
		notLaid(t, s, err, c.want)
	}
	// What is put is not always what is asked: the error of putting is told too.
	s, err := list.Put([]string{"", strings.Repeat("x", api.MaxText+1)}, func(string) api.Errno { return api.OK },
		func(a, b string) bool { return a < b }, wire.Text)
	notLaid(t, s, err, api.ErrLong)
}

func TestReadRefuses(t *testing.T) {
	for _, c := range []struct {
		s    string
		want api.Errno
	}{
		{"", api.ErrCut},
		{"\x80", api.ErrCut},
		{"\x80\x00", api.ErrForm},
		{"\x01", api.ErrCut},
		{"\x02\x01", api.ErrCut},
		{"\x02\x64", api.ErrCut},
		{"\x01\x80\x00", api.ErrForm},
		{"\x02\x80\x00", api.ErrForm},
		{"\x00\x00", api.ErrForm},
		{"\x01\x64\x00", api.ErrForm},
		{"\x81\x20", api.ErrLong},
		{"\x81\x20\x80\x00", api.ErrLong},
		{"\x01\x64", api.ErrArg},
		{"\x02\x01\x01", api.ErrForm},
		{"\x02\x02\x01", api.ErrForm},
		{"\x03\x02\x01\x64", api.ErrArg},
	} {
		if l, err := list.Read(c.s, check, less, take); len(l) != 0 || err != c.want {
			t.Errorf("Read of %q = %v, error %d; want error %d alone", c.s, l, err, c.want)
		}
	}
}
