package plainly_test

import (
	"fmt"
	"slices"
	"strings"
	"testing"

	"almonry/api"
	"almonry/causal"
	"almonry/chunk"
	"almonry/dot"
	"almonry/fact"
	"almonry/plainly"
	"almonry/register"
	"almonry/wire"
)

func TestNumberAndTextAreAsLayerOnePutsThem(t *testing.T) {
	for bit := range 54 {
		for _, n := range []int{1<<bit - 1, 1 << bit, 1<<bit + 1} {
			want, err := wire.Num(n)
			if got := plainly.Number(n); err == api.OK && got != want {
				t.Errorf("Number(%d) = %q; want %q", n, got, want)
			}
		}
	}
	for _, size := range []int{0, 1, 127, 128, 300, api.MaxText} {
		s := strings.Repeat("x", size)
		if want, _ := wire.Text(s); plainly.Text(s) != want {
			t.Errorf("Text of %d bytes = %.20q; want %.20q", size, plainly.Text(s), want)
		}
	}
	if got := plainly.Numbers(0, 300, 1); got != "\x00\xac\x02\x01" {
		t.Errorf("Numbers(0, 300, 1) = %q", got)
	}
	if got := plainly.Numbers(); got != "" {
		t.Errorf("Numbers() = %q", got)
	}
}

func TestDotsAndFactsAreAsLayersPutThem(t *testing.T) {
	a, b := api.Dot{Replica: 1, N: 2}, api.Dot{Replica: 2, N: 300}
	for _, l := range [][]api.Dot{nil, {a}, {a, b}} {
		if want, err := dot.Put(l); plainly.Dots(l...) != want || err != api.OK {
			t.Errorf("Dots(%v) = %q; want %q, error %d", l, plainly.Dots(l...), want, err)
		}
	}
	f := api.Fact{Dot: b, Stamp: api.Stamp{Time: 7, Count: 400, Replica: 2}, Kind: api.FactTag, Name: "b", Value: "x"}
	g := f
	g.Value = "y"
	for _, l := range [][]api.Fact{nil, {f}, {f, g}} {
		if want, err := fact.Put(l); plainly.Facts(l...) != want || err != api.OK {
			t.Errorf("Facts(%v) = %q; want %q, error %d", l, plainly.Facts(l...), want, err)
		}
	}
	// What is refused there has bytes too.
	if got := plainly.Dots(b, api.Dot{}); got != "\x02\x02\xac\x02\x00\x00" {
		t.Errorf("Dots of what does not rise = %q", got)
	}
	if got := plainly.Fact(api.Fact{}); got != "\x00\x00\x00\x00\x00\x00\x00" {
		t.Errorf("Fact of nothing = %q", got)
	}
}

func TestContextsAreAsLayerThirteenPutsThem(t *testing.T) {
	for _, c := range []api.Context{
		{},
		{V: api.Vector{2, 15: 300}},
		{V: api.Vector{0, 1, 15: api.MaxCount}, Cloud: []api.Dot{{N: 2}, {Replica: 1, N: 300}, {Replica: 14, N: api.MaxCount}}},
	} {
		if want, err := causal.Put(c); plainly.Context(c) != want || err != api.OK {
			t.Errorf("Context(%v) = %q; want %q, error %d", c, plainly.Context(c), want, err)
		}
	}
	// What is refused there has bytes too.
	wrong := api.Context{V: api.Vector{api.MaxCount + 1}, Cloud: []api.Dot{{Replica: 16, N: 1}, {}}}
	if got, want := plainly.Context(wrong), "\x81\x80\x80\x80\x80\x20"+strings.Repeat("\x00", 15)+"\x05\x02\x10\x01\x00\x00"; got != want {
		t.Errorf("Context of what is none = %q; want %q", got, want)
	}
}

func TestManifestsAreAsLayerNinePutsThem(t *testing.T) {
	for _, bytes := range []int{0, 1, 4, 5, 300, api.MaxData} {
		for _, size := range []int{8, 9, 300, api.MaxChunk} {
			m, err := chunk.Manifest(strings.Repeat("x", bytes), size)
			want, putErr := chunk.Put(m)
			if err != api.OK || putErr != api.OK || plainly.Manifest(m) != want {
				t.Errorf("Manifest of %d bytes, chunks of %d = %.20q; want %.20q", bytes, size, plainly.Manifest(m), want)
			}
			// The IDs apart, it is any manifest of these sizes.
			for i := range m.IDs {
				m.IDs[i] = strings.Repeat("0", 64)
			}
			if want, err := chunk.Put(m); plainly.ManifestOf(bytes, size) != want || err != api.OK {
				t.Errorf("ManifestOf(%d, %d) = %.20q; want %.20q, error %d", bytes, size, plainly.ManifestOf(bytes, size), want, err)
			}
		}
	}
	// What is refused there has bytes too.
	if got := plainly.Manifest(api.Manifest{Size: 300, IDs: []string{"", "x"}}); got != "\xac\x02\x00\x02\x00\x01x" {
		t.Errorf("Manifest of no chunks' size = %q", got)
	}
}

// Past layer 1's limits there are bytes too, which it refuses.
func TestNumberAndTextHaveNoLimit(t *testing.T) {
	for s, want := range map[string]api.Errno{
		plainly.Number(api.MaxNum + 1):                     api.ErrRange,
		plainly.Text(strings.Repeat("x", api.MaxText+1)):   api.ErrLong,
		plainly.Text(strings.Repeat("x", 2*api.MaxText+1)): api.ErrLong,
	} {
		if r := wire.New(s); r.Text() != "" || r.Err() != want {
			t.Errorf("Text of %.20q has error %d; want %d", s, r.Err(), want)
		}
	}
}

func TestWrongNumbersAreThoseOfLayerOne(t *testing.T) {
	told := map[api.Errno]bool{}
	for s, want := range plainly.WrongNumbers() {
		// It is told wherever the number ends, and whatever stands behind it.
		for _, behind := range []string{"", "\x00", "\x80"} {
			if r := wire.New(s + behind); r.Num() != 0 || r.Err() != want {
				t.Errorf("Num of %q has error %d; want %d", s+behind, r.Err(), want)
			}
		}
		told[want] = true
	}
	if len(told) != 2 || !told[api.ErrForm] || !told[api.ErrRange] {
		t.Errorf("wrong numbers have errors %v; want each that is told of a whole number", told)
	}
}

// takes fails unless a number and a text are taken as layer 1's reader takes them.
func takes(t *testing.T, s string) {
	t.Helper()
	r := wire.New(s)
	want := r.Num()
	n, left, err := plainly.TakeNumber(s)
	if n != want || err != r.Err() || err == api.OK && plainly.Number(n)+left != s {
		t.Fatalf("TakeNumber(%.40q) = %d, %.40q, error %d; want %d, error %d", s, n, left, err, want, r.Err())
	}
	r = wire.New(s)
	text, left, err := plainly.TakeText(s)
	if wantText := r.Text(); text != wantText || err != r.Err() || err == api.OK && plainly.Text(text)+left != s {
		t.Fatalf("TakeText(%.40q) = %.40q, %.40q, error %d; want %.40q, error %d", s, text, left, err, wantText, r.Err())
	}
}

func TestTakesAsLayerOneTakes(t *testing.T) {
	for s := range plainly.Words("\x00\x01\x02\x7f\x80\xff", 5) {
		takes(t, s)
	}
	for size := range 12 {
		for _, last := range []string{"", "\x00", "\x01", "\x0f", "\x10", "\x11", "\x7f"} {
			takes(t, strings.Repeat("\x80", size)+last)
			takes(t, strings.Repeat("\xff", size)+last)
			takes(t, "\x81"+strings.Repeat("\x80", size)+last)
		}
	}
	for _, size := range []int{api.MaxText, api.MaxText + 1} {
		takes(t, plainly.Text(strings.Repeat("x", size)))
		takes(t, plainly.Text(strings.Repeat("x", size))[:size])
	}
}

func TestWords(t *testing.T) {
	for _, c := range []struct {
		letters string
		most    int
		want    []string
	}{
		{"", 3, []string{""}},
		{"ab", 0, []string{""}},
		{"ab", 1, []string{"", "a", "b"}},
		{"ab", 2, []string{"", "a", "aa", "ab", "b", "ba", "bb"}},
		{"\xff\x00", 1, []string{"", "\xff", "\x00"}},
	} {
		if got := slices.Collect(plainly.Words(c.letters, c.most)); !slices.Equal(got, c.want) {
			t.Errorf("Words(%q, %d) = %q; want %q", c.letters, c.most, got, c.want)
		}
	}
	if got := len(slices.Collect(plainly.Words("abc", 4))); got != 1+3+9+27+81 {
		t.Errorf("%d words of at most four of three letters", got)
	}
	// Who has seen enough may end it, at each of them.
	for most := range 8 {
		var seen []string
		for s := range plainly.Words("ab", 2) {
			seen = append(seen, s)
			if len(seen) > most {
				break
			}
		}
		if len(seen) != min(most+1, 7) {
			t.Errorf("%d words; want %d", len(seen), min(most+1, 7))
		}
	}
}

func TestChanges(t *testing.T) {
	for _, s := range []string{"", "a", "\x00\xff", "abc"} {
		seen := map[string]bool{}
		for changed := range plainly.Changes(s) {
			unlike := 0
			for i := range len(s) {
				if changed[i] != s[i] {
					unlike++
				}
			}
			if len(changed) != len(s) || unlike != 1 || seen[changed] {
				t.Errorf("a change of %q is %q", s, changed)
			}
			seen[changed] = true
		}
		if len(seen) != 255*len(s) {
			t.Errorf("%d changes of %q", len(seen), s)
		}
	}
	for range plainly.Changes("abc") {
		break
	}
}

func TestOrders(t *testing.T) {
	for n, want := range []int{1, 1, 2, 6, 24, 120} {
		rising := []int{0, 1, 2, 3, 4}[:n]
		l := slices.Clone(rising)
		seen := map[string]bool{}
		for _, mixed := range plainly.Orders(l) {
			seen[fmt.Sprint(mixed)] = true
			slices.Sort(mixed)
			if !slices.Equal(mixed, rising) {
				t.Errorf("an order of %v has %v", l, mixed)
			}
		}
		if len(seen) != want || !slices.Equal(l, rising) {
			t.Errorf("%d orders of %v; want %d of %v", len(seen), l, want, rising)
		}
	}
}

func TestAheadIsAsLayerSeventeenLists(t *testing.T) {
	var l []api.Fact
	for i := range 32 {
		l = append(l, api.Fact{
			Stamp: api.Stamp{Time: i & 1, Count: i >> 1 & 1, Replica: i >> 2 & 1},
			Dot:   api.Dot{Replica: i >> 3 & 1, N: i >> 4 & 1}, Value: "a",
		})
	}
	for _, f := range l {
		later := f
		later.Value = "b"
		l = append(l, later)
	}
	for i, f := range l {
		for j, g := range l {
			last, _ := register.Last([]api.Fact{marked(f, "f"), marked(g, "g")})
			// A mark tells whose value is the last one.
			if want := i != j && strings.HasSuffix(last, "g"); plainly.Ahead(f, g) != want {
				t.Errorf("Ahead(%+v, %+v) = %t", f, g, !want)
			}
		}
	}
}

// marked is f, with a mark behind its value.
func marked(f api.Fact, mark string) api.Fact {
	f.Value += mark
	return f
}

func TestChoices(t *testing.T) {
	s := "\x00\x07\xff\x09rest"
	next := plainly.Choices(&s)
	got := []int{next(5), next(5), next(256), next(1)}
	if want := []int{0, 2, 255, 0}; !slices.Equal(got, want) || s != "rest" {
		t.Errorf("choices are %v, %q is left; want %v", got, s, want)
	}
	for range "rest" {
		next(3)
	}
	if n := next(3); n != 0 || s != "" {
		t.Errorf("%d is chosen, %q is left, where nothing was", n, s)
	}
}
