package wire_test

import (
	"slices"
	"strings"
	"testing"

	"almonry/api"
	"almonry/wire"
)

// Promise 1.1: what is put.

func TestNumPutsSevenBitsAtATime(t *testing.T) {
	for _, c := range []struct {
		n    int
		want string
	}{
		{0, "\x00"},
		{1, "\x01"},
		{127, "\x7f"},
		{128, "\x80\x01"},
		{129, "\x81\x01"},
		{300, "\xac\x02"},
		{1<<14 - 1, "\xff\x7f"},
		{1 << 14, "\x80\x80\x01"},
		{api.MaxText, "\x80\x80\x04"},
		{1<<49 - 1, "\xff\xff\xff\xff\xff\xff\x7f"},
		{1 << 49, "\x80\x80\x80\x80\x80\x80\x80\x01"},
		{api.MaxNum - 1, "\xff\xff\xff\xff\xff\xff\xff\x0f"},
		{api.MaxNum, "\x80\x80\x80\x80\x80\x80\x80\x10"},
	} {
		if got, err := wire.Num(c.n); got != c.want || err != api.OK {
			t.Errorf("Num(%d) = %q, %d; want %q", c.n, got, err, c.want)
		}
	}
}

func TestNumRefusesWhatIsOutOfRange(t *testing.T) {
	const most = int(^uint(0) >> 1)
	for _, n := range []int{-1, -128, -most - 1, api.MaxNum + 1, most} {
		if got, err := wire.Num(n); got != "" || err != api.ErrRange {
			t.Errorf("Num(%d) = %q, %d; want ErrRange", n, got, err)
		}
	}
}

func TestTextPutsLengthAndBytes(t *testing.T) {
	full := strings.Repeat("x", api.MaxText)
	long := strings.Repeat("y", 300)
	for _, c := range []struct{ s, want string }{
		{"", "\x00"},
		{"x", "\x01x"},
		{"\x00\xff\x80", "\x03\x00\xff\x80"},
		{"né", "\x03né"},
		{long, "\xac\x02" + long},
		{full, "\x80\x80\x04" + full},
	} {
		if got, err := wire.Text(c.s); got != c.want || err != api.OK {
			t.Errorf("Text of %d bytes is %d bytes, error %d; want %d bytes", len(c.s), len(got), err, len(c.want))
		}
	}
}

func TestTextRefusesMoreThanMaxText(t *testing.T) {
	for _, size := range []int{api.MaxText + 1, 2 * api.MaxText} {
		if got, err := wire.Text(strings.Repeat("x", size)); got != "" || err != api.ErrLong {
			t.Errorf("Text of %d bytes is %d bytes, error %d; want ErrLong", size, len(got), err)
		}
	}
}

func TestListPutsCountAndTexts(t *testing.T) {
	full := strings.Repeat("x", api.MaxText)
	for _, c := range []struct {
		l    []string
		want string
	}{
		{nil, "\x00"},
		{[]string{}, "\x00"},
		{[]string{""}, "\x01\x00"},
		{[]string{"x", ""}, "\x02\x01x\x00"},
		{[]string{"b", "a", "b"}, "\x03\x01b\x01a\x01b"},
		{[]string{full, "z"}, "\x02\x80\x80\x04" + full + "\x01z"},
		{slices.Repeat([]string{"x"}, api.MaxList), "\x80\x20" + strings.Repeat("\x01x", api.MaxList)},
	} {
		if got, err := wire.List(c.l); got != c.want || err != api.OK {
			t.Errorf("List of %d texts is %d bytes, error %d; want %d bytes", len(c.l), len(got), err, len(c.want))
		}
	}
}

func TestListRefusesWhatIsTooLong(t *testing.T) {
	long := strings.Repeat("x", api.MaxText+1)
	for i, l := range [][]string{
		make([]string, api.MaxList+1),
		{long},
		{long, "a"},
		{"a", "b", long},
		append(make([]string, api.MaxList-1), long),
		append(make([]string, api.MaxList), long),
	} {
		if got, err := wire.List(l); got != "" || err != api.ErrLong {
			t.Errorf("list %d is %d bytes, error %d; want ErrLong", i, len(got), err)
		}
	}
}

func TestListLeavesWhatIsHandedIn(t *testing.T) {
	l := []string{"b", "", "a"}
	wire.List(l)
	if !slices.Equal(l, []string{"b", "", "a"}) {
		t.Errorf("the list was changed: %q", l)
	}
}

// Promise 1.2: what is read.

func TestReaderTakesWhatWasPut(t *testing.T) {
	r := wire.New("\xac\x02\x01x\x02\x00\x01y\x00")
	if n := r.Num(); n != 300 {
		t.Errorf("Num = %d", n)
	}
	if s := r.Text(); s != "x" {
		t.Errorf("Text = %q", s)
	}
	if err := r.Done(); err != api.ErrForm {
		t.Errorf("Done ahead of the list = %d; want ErrForm", err)
	}
	if l := r.List(); !slices.Equal(l, []string{"", "y"}) {
		t.Errorf("List = %q", l)
	}
	if l := r.List(); len(l) != 0 {
		t.Errorf("empty List = %q", l)
	}
	if err := r.Err(); err != api.OK {
		t.Errorf("Err = %d", err)
	}
	if err := r.Done(); err != api.OK {
		t.Errorf("Done = %d", err)
	}
}

func TestReaderTakesEachNumber(t *testing.T) {
	numbers := []int{0, 1, 127, 128, 129, 255, 256, 300, api.MaxNum - 1, api.MaxNum}
	for bit := range 53 {
		numbers = append(numbers, 1<<bit-1, 1<<bit, 1<<bit+1)
	}
	var all strings.Builder
	for _, n := range numbers {
		s, err := wire.Num(n)
		if err != api.OK {
			t.Fatalf("Num(%d): error %d", n, err)
		}
		all.WriteString(s)
	}
	r := wire.New(all.String())
	for _, n := range numbers {
		if got := r.Num(); got != n || r.Err() != api.OK {
			t.Fatalf("Num = %d, error %d; want %d", got, r.Err(), n)
		}
	}
	if err := r.Done(); err != api.OK {
		t.Errorf("Done = %d", err)
	}
}

func TestReaderTakesWhatIsAtTheLimits(t *testing.T) {
	full := strings.Repeat("x", api.MaxText)
	texts := append(slices.Repeat([]string{"x", ""}, api.MaxList/2-1), full, full)
	text, textErr := wire.Text(full)
	list, listErr := wire.List(texts)
	if textErr != api.OK || listErr != api.OK {
		t.Fatalf("errors %d, %d", textErr, listErr)
	}
	r := wire.New(text + list)
	if got := r.Text(); got != full {
		t.Errorf("Text is %d bytes", len(got))
	}
	if got := r.List(); !slices.Equal(got, texts) {
		t.Errorf("List is %d texts", len(got))
	}
	if err := r.Done(); err != api.OK {
		t.Errorf("Done = %d", err)
	}
}

// wrong is bytes that a reader must refuse, and the error it must tell.
type wrong struct {
	s    string
	want api.Errno
}

func wrongNumbers() []wrong {
	return []wrong{
		{"", api.ErrCut},
		{"\x80", api.ErrCut},
		{"\xff\xff", api.ErrCut},
		{strings.Repeat("\x80", 8), api.ErrCut},
		{strings.Repeat("\xff", 9), api.ErrCut},
		{strings.Repeat("\x80", 1000), api.ErrCut},
		{"\x81\x80\x80\x80\x80\x80\x80\x10", api.ErrRange},
		{"\xff\xff\xff\xff\xff\xff\xff\x7f", api.ErrRange},
		{"\x80\x80\x80\x80\x80\x80\x80\x80\x01", api.ErrRange},
		{"\x80\x80\x80\x80\x80\x80\x80\x80\x00", api.ErrRange},
		{strings.Repeat("\x80", 1000) + "\x01", api.ErrRange},
		{"\x80\x00", api.ErrForm},
		{"\xff\x00", api.ErrForm},
		{"\xac\x82\x00", api.ErrForm},
		{"\x80\x80\x80\x80\x80\x80\x80\x00", api.ErrForm},
	}
}

// fails holds what was told against nothing, and the reader's errors against the one that is asked for.
func fails(t *testing.T, what string, r *wire.Reader, nothing bool, c wrong) {
	t.Helper()
	if !nothing {
		t.Errorf("%s of %q tells something beside an error", what, clip(c.s))
	}
	if r.Err() != c.want || r.Done() != c.want {
		t.Errorf("%s of %q: Err = %d, Done = %d; want %d", what, clip(c.s), r.Err(), r.Done(), c.want)
	}
}

func clip(s string) string { return s[:min(len(s), 20)] }

func TestReaderRefusesWrongNumbers(t *testing.T) {
	for _, c := range wrongNumbers() {
		r := wire.New(c.s)
		fails(t, "Num", r, r.Num() == 0, c)
		r = wire.New(c.s)
		fails(t, "Text", r, r.Text() == "", c)
		r = wire.New(c.s)
		fails(t, "List", r, len(r.List()) == 0, c)
		inside := wrong{"\x02\x01x" + c.s, c.want}
		r = wire.New(inside.s)
		fails(t, "List", r, len(r.List()) == 0, inside)
	}
}

func TestReaderRefusesWrongTexts(t *testing.T) {
	for _, c := range []wrong{
		{"\x01", api.ErrCut},
		{"\x03ab", api.ErrCut},
		{"\x80\x80\x04" + strings.Repeat("x", api.MaxText-1), api.ErrCut},
		{"\x81\x80\x04", api.ErrLong},
		{"\x81\x80\x04" + strings.Repeat("x", api.MaxText+1), api.ErrLong},
		{"\x80\x80\x80\x80\x80\x80\x80\x10", api.ErrLong},
	} {
		r := wire.New(c.s)
		fails(t, "Text", r, r.Text() == "", c)
		inside := wrong{"\x02\x01x" + c.s, c.want}
		r = wire.New(inside.s)
		fails(t, "List", r, len(r.List()) == 0, inside)
	}
}

func TestReaderRefusesWrongLists(t *testing.T) {
	for _, c := range []wrong{
		{"\x01", api.ErrCut},
		{"\x02\x01x", api.ErrCut},
		{"\x80\x20" + strings.Repeat("\x00", api.MaxList-1), api.ErrCut},
		{"\x81\x20", api.ErrLong},
		{"\x81\x20" + strings.Repeat("\x00", api.MaxList+1), api.ErrLong},
		{"\x80\x80\x80\x80\x80\x80\x80\x10", api.ErrLong},
	} {
		r := wire.New(c.s)
		fails(t, "List", r, len(r.List()) == 0, c)
	}
}

// A text may be as long as a list may not, and a number as great as neither: each call has its own limit.
func TestReaderHoldsEachCallToItsOwnLimit(t *testing.T) {
	r := wire.New("\x81\x20" + strings.Repeat("x", api.MaxList+1))
	if s := r.Text(); len(s) != api.MaxList+1 || r.Done() != api.OK {
		t.Errorf("Text is %d bytes, error %d", len(s), r.Done())
	}
	r = wire.New("\x81\x80\x04")
	if n := r.Num(); n != api.MaxText+1 || r.Done() != api.OK {
		t.Errorf("Num = %d, error %d", n, r.Done())
	}
}

func TestReaderTellsNothingBehindAnError(t *testing.T) {
	for _, c := range []wrong{
		{"\x80\x00\x05\x01x\x01\x01y", api.ErrForm},
		{"\x80\x80\x80\x80\x80\x80\x80\x80\x01\x05\x01x\x01\x01y", api.ErrRange},
	} {
		r := wire.New(c.s)
		r.Num()
		tellsNothing(t, r, c)
	}
	c := wrong{"\x81\x80\x04\x05\x01x\x01\x01y", api.ErrLong}
	r := wire.New(c.s)
	r.Text()
	tellsNothing(t, r, c)
	r = wire.New(c.s)
	r.List()
	tellsNothing(t, r, c)
	c = wrong{"\x09\x01x", api.ErrCut}
	r = wire.New(c.s)
	r.Text()
	tellsNothing(t, r, c)
	c = wrong{"\x02\x80\x00\x05\x01x\x01\x01y", api.ErrForm}
	r = wire.New(c.s)
	r.List()
	tellsNothing(t, r, c)
}

// tellsNothing asks twice around, so that each call also comes behind each other one.
func tellsNothing(t *testing.T, r *wire.Reader, c wrong) {
	t.Helper()
	for range 2 {
		fails(t, "Num", r, r.Num() == 0, c)
		fails(t, "Text", r, r.Text() == "", c)
		fails(t, "List", r, len(r.List()) == 0, c)
	}
}

func TestReaderKeepsTheFirstError(t *testing.T) {
	r := wire.New("\x05\x81\x80\x04")
	if n := r.Num(); n != 5 || r.Err() != api.OK {
		t.Fatalf("Num = %d, error %d", n, r.Err())
	}
	r.Text()
	r.Num()
	r.List()
	if r.Err() != api.ErrLong || r.Done() != api.ErrLong {
		t.Errorf("Err = %d, Done = %d; want ErrLong", r.Err(), r.Done())
	}
	r = wire.New("\x80")
	r.Num()
	if r.Done() != api.ErrCut {
		t.Errorf("Done = %d; want ErrCut, not ErrForm for what is left", r.Done())
	}
}

func TestDoneTellsWhatIsLeftAndChangesNothing(t *testing.T) {
	r := wire.New("\x05\x06")
	if r.Done() != api.ErrForm || r.Err() != api.OK {
		t.Errorf("ahead: Done = %d, Err = %d", r.Done(), r.Err())
	}
	if n := r.Num(); n != 5 {
		t.Errorf("Num = %d", n)
	}
	if r.Done() != api.ErrForm || r.Err() != api.OK {
		t.Errorf("between: Done = %d, Err = %d", r.Done(), r.Err())
	}
	if n := r.Num(); n != 6 {
		t.Errorf("Num = %d", n)
	}
	if r.Done() != api.OK || r.Err() != api.OK {
		t.Errorf("behind: Done = %d, Err = %d", r.Done(), r.Err())
	}
}

func TestReaderOfNothing(t *testing.T) {
	for _, r := range []*wire.Reader{wire.New(""), new(wire.Reader)} {
		if r.Err() != api.OK || r.Done() != api.OK {
			t.Errorf("Err = %d, Done = %d; want OK", r.Err(), r.Done())
		}
		if n := r.Num(); n != 0 || r.Err() != api.ErrCut {
			t.Errorf("Num = %d, error %d; want ErrCut", n, r.Err())
		}
	}
}

func TestReaderThatIsNil(t *testing.T) {
	var r *wire.Reader
	tellsNothing(t, r, wrong{"", api.ErrNil})
}

func TestReadersAreApart(t *testing.T) {
	a, b := wire.New("\x01\x02"), wire.New("\x80\x00")
	b.Num()
	if a.Num() != 1 || a.Num() != 2 || a.Done() != api.OK || b.Done() != api.ErrForm {
		t.Errorf("errors %d, %d; want OK, ErrForm", a.Done(), b.Done())
	}
}

// Whatever is read without an error is what is put again: there is one form of each thing.
func FuzzOneForm(f *testing.F) {
	for _, c := range wrongNumbers() {
		f.Add(c.s)
	}
	f.Add("\xac\x02")
	f.Add("\x02\x01x\x00")
	f.Fuzz(func(t *testing.T, s string) {
		num, text, list := wire.New(s), wire.New(s), wire.New(s)
		n, x, l := num.Num(), text.Text(), list.List()
		puts := func(what string, r *wire.Reader, put string, err api.Errno) {
			if r.Err() == api.OK && (err != api.OK || !strings.HasPrefix(s, put) || (r.Done() == api.OK) != (put == s)) {
				t.Errorf("%s of %q is put as %q, error %d", what, s, put, err)
			}
		}
		put, err := wire.Num(n)
		puts("Num", num, put, err)
		put, err = wire.Text(x)
		puts("Text", text, put, err)
		put, err = wire.List(l)
		puts("List", list, put, err)
	})
}
