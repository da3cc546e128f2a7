package op_test

import (
	"fmt"
	"math"
	"slices"
	"strconv"
	"strings"
	"testing"

	"almonry/api"
	"almonry/op"
	"almonry/plainly"
)

// kinds are those of operations that there are, rising.
func kinds() []int {
	return []int{api.OpCreate, api.OpTag, api.OpUntag, api.OpLabel, api.OpKeep, api.OpDelete}
}

// asked is an operation of this kind on backup a, with what may stand in the fields that its kind has.
func asked(kind int) api.Op {
	o := api.Op{Kind: kind, Name: "a"}
	switch kind {
	case api.OpCreate:
		o.Data = "xyz"
	case api.OpTag, api.OpUntag, api.OpLabel:
		o.Value = "x"
	case api.OpKeep:
		o.Keep = 1.5
	}
	return o
}

// each is an operation of each kind.
func each() []api.Op {
	var l []api.Op
	for _, kind := range kinds() {
		l = append(l, asked(kind))
	}
	return l
}

// tagging is an operation of this kind with a tag of backup a.
func tagging(kind int, value string) api.Op { return api.Op{Kind: kind, Name: "a", Value: value} }

// hasValue tells whether operations of this kind have a Value.
func hasValue(kind int) bool {
	return kind == api.OpTag || kind == api.OpUntag || kind == api.OpLabel
}

// at is the name of a replica's update.
func at(replica, n int) api.Dot { return api.Dot{Replica: replica, N: n} }

// said is what an update says of backup a.
func said(d api.Dot, kind int, value string) api.Fact {
	return api.Fact{Dot: d, Stamp: api.Stamp{Time: 7, Count: d.N, Replica: d.Replica}, Kind: kind, Name: "a", Value: value}
}

// of is f, but of another backup.
func of(name string, f api.Fact) api.Fact {
	f.Name = name
	return f
}

// backup is a backup a that replica 1 made.
func backup() api.Fact { return said(at(1, 1), api.FactBackup, plainly.ManifestOf(5, 2)) }

// tags are n tags of backup a, none of which is x.
func tags(n int) []api.Fact {
	var l []api.Fact
	for i := range n {
		l = append(l, said(at(2, i+1), api.FactTag, "t"+strconv.Itoa(i)))
	}
	return l
}

// facts lists some, and some more.
func facts(l []api.Fact, more ...api.Fact) []api.Fact { return slices.Concat(l, more) }

// shown is how a thing is told where it is not as it should be: its beginning.
func shown(thing any) string { return fmt.Sprintf("%.300s", fmt.Sprintf("%+v", thing)) }

// checks fails unless Check answers this error.
func checks(t *testing.T, o api.Op, want api.Errno) {
	t.Helper()
	if err := op.Check(o); err != want {
		t.Errorf("Check of kind %d, a name of %d bytes, a value of %d, data of %d, keep %v = error %d; want %d",
			o.Kind, len(o.Name), len(o.Value), len(o.Data), o.Keep, err, want)
	}
}

// mays fails unless May answers this error, and leaves what is handed in.
func mays(t *testing.T, l []api.Fact, o api.Op, want api.Errno) {
	t.Helper()
	kept := slices.Clone(l)
	if err := op.May(l, o); err != want {
		t.Errorf("May of %d facts, %s, %s = error %d; want %d", len(l), shown(l), shown(o), err, want)
	}
	if !slices.Equal(l, kept) {
		t.Errorf("May changed what was handed in: %s; want %s", shown(l), shown(kept))
	}
}

// edges are numbers at which something may go over.
func edges() []int {
	return []int{
		math.MinInt, math.MinInt + 1, -1 << 32, -256, -7, -1, 0, 1, 2, 3, 4, 5, 6, 7, 8, 15, 16, 127, 128, 255, 256, 257,
		1 << 16, 1 << 32, 1<<32 + 1, math.MaxInt - 1, math.MaxInt,
	}
}

// keeps are numbers of each sort; the first one alone is that of a field that is not there.
func keeps() []float64 {
	return []float64{
		0, math.Copysign(0, -1), 1, -1, 1.5, math.SmallestNonzeroFloat64, -math.SmallestNonzeroFloat64, math.MaxFloat64,
		math.Inf(1), math.Inf(-1), math.NaN(), math.Copysign(math.NaN(), -1), math.Float64frombits(0x7ff0000000000001),
	}
}

// Promise 19.1: Check.

func TestCheckTakesEachKind(t *testing.T) {
	checks(t, api.Op{Kind: api.OpCreate, Name: "a"}, api.OK)
	checks(t, api.Op{Kind: api.OpCreate, Name: "a", Data: "\x00"}, api.OK)
	checks(t, api.Op{Kind: api.OpTag, Name: "a", Value: "x"}, api.OK)
	checks(t, api.Op{Kind: api.OpUntag, Name: "a", Value: "x"}, api.OK)
	checks(t, api.Op{Kind: api.OpLabel, Name: "a"}, api.OK)
	checks(t, api.Op{Kind: api.OpLabel, Name: "a", Value: "of a day"}, api.OK)
	checks(t, api.Op{Kind: api.OpKeep, Name: "a"}, api.OK)
	checks(t, api.Op{Kind: api.OpKeep, Name: "a", Keep: 30}, api.OK)
	checks(t, api.Op{Kind: api.OpDelete, Name: "a"}, api.OK)
	for _, o := range each() {
		checks(t, o, api.OK)
	}
}

func TestCheckAsksTheKind(t *testing.T) {
	for _, kind := range edges() {
		want := api.ErrArg
		if slices.Contains(kinds(), kind) {
			want = api.OK
		}
		checks(t, asked(kind), want)
		// It comes ahead of all else.
		if want != api.OK {
			checks(t, api.Op{Kind: kind}, want)
			checks(t, api.Op{Kind: kind, Name: strings.Repeat("n", 65), Value: strings.Repeat("v", 257), Data: strings.Repeat("d", 32769), Keep: 1}, want)
		}
	}
	checks(t, api.Op{}, api.ErrArg)
}

// lengths are those at which a text of a limit may go over.
func lengths(limit int) []int {
	return []int{0, 1, 2, limit - 1, limit, limit + 1, 2 * limit, 2*limit + 1, 3 * limit, limit << 8, limit<<8 + 1}
}

func TestCheckAsksTheName(t *testing.T) {
	for _, o := range each() {
		for _, size := range lengths(64) {
			want := api.OK
			if size < 1 || size > 64 {
				want = api.ErrName
			}
			// It has any bytes, and bytes are counted, not letters.
			for _, letter := range []string{"n", "\x00", "\xff", " ", "/"} {
				o.Name = strings.Repeat(letter, size)
				checks(t, o, want)
			}
		}
		o.Name = strings.Repeat("ä", 32)
		checks(t, o, api.OK)
		o.Name += "ä"
		checks(t, o, api.ErrName)
	}
}

func TestCheckAsksATag(t *testing.T) {
	for _, kind := range []int{api.OpTag, api.OpUntag} {
		for _, size := range lengths(64) {
			want := api.OK
			if size < 1 || size > 64 {
				want = api.ErrName
			}
			for _, letter := range []string{"v", "\x00", "\xff"} {
				checks(t, tagging(kind, strings.Repeat(letter, size)), want)
			}
		}
		checks(t, tagging(kind, strings.Repeat("ä", 32)), api.OK)
		checks(t, tagging(kind, strings.Repeat("ä", 33)), api.ErrName)
	}
}

func TestCheckAsksALabel(t *testing.T) {
	for _, size := range lengths(256) {
		want := api.OK
		if size > 256 {
			want = api.ErrLong
		}
		for _, letter := range []string{"v", "\x00", "\xff"} {
			checks(t, tagging(api.OpLabel, strings.Repeat(letter, size)), want)
		}
	}
	checks(t, tagging(api.OpLabel, strings.Repeat("ä", 128)), api.OK)
	checks(t, tagging(api.OpLabel, strings.Repeat("ä", 129)), api.ErrLong)
}

func TestCheckAsksTheData(t *testing.T) {
	for _, size := range lengths(32768) {
		want := api.OK
		if size > 32768 {
			want = api.ErrLong
		}
		for _, letter := range []string{"d", "\x00", "\xff"} {
			checks(t, api.Op{Kind: api.OpCreate, Name: "a", Data: strings.Repeat(letter, size)}, want)
		}
	}
}

func TestCheckTakesAnyKeep(t *testing.T) {
	for _, keep := range keeps() {
		checks(t, api.Op{Kind: api.OpKeep, Name: "a", Keep: keep}, api.OK)
	}
}

func TestCheckRefusesWhatItsKindHasNot(t *testing.T) {
	for _, o := range each() {
		for _, s := range []string{"x", "\x00", strings.Repeat("v", 64), strings.Repeat("v", 65), strings.Repeat("v", 257), strings.Repeat("v", 32769)} {
			if !hasValue(o.Kind) {
				other := o
				other.Value = s
				checks(t, other, api.ErrForm)
			}
			if o.Kind != api.OpCreate {
				other := o
				other.Data = s
				checks(t, other, api.ErrForm)
			}
		}
		if o.Kind == api.OpKeep {
			continue
		}
		// Minus nought is not the 0 of a field that is not there.
		for _, keep := range keeps()[1:] {
			other := o
			other.Keep = keep
			checks(t, other, api.ErrForm)
		}
	}
}

// fault is what may be wrong, and its error.
type fault struct {
	applies bool
	err     api.Errno
}

// first is the first error of those that apply.
func first(l ...fault) api.Errno {
	for _, f := range l {
		if f.applies {
			return f.err
		}
	}
	return api.OK
}

// plainCheck is what promise 19.1 says that Check answers.
func plainCheck(o api.Op) api.Errno {
	isTag, isLabel := o.Kind == api.OpTag || o.Kind == api.OpUntag, o.Kind == api.OpLabel
	return first(
		fault{!slices.Contains(kinds(), o.Kind), api.ErrArg},
		fault{len(o.Name) == 0 || len(o.Name) > 64, api.ErrName},
		fault{isTag && (len(o.Value) == 0 || len(o.Value) > 64), api.ErrName},
		fault{isLabel && len(o.Value) > 256, api.ErrLong},
		fault{o.Kind == api.OpCreate && len(o.Data) > 32768, api.ErrLong},
		fault{!isTag && !isLabel && o.Value != "", api.ErrForm},
		fault{o.Kind != api.OpCreate && o.Data != "", api.ErrForm},
		fault{o.Kind != api.OpKeep && math.Float64bits(o.Keep) != 0, api.ErrForm},
	)
}

// mixed are operations with what may stand in each field beside what may stand in each other one.
func mixed() []api.Op {
	var l []api.Op
	for kind := range 8 {
		for _, name := range []string{"", "a", "b", strings.Repeat("n", 64), strings.Repeat("n", 65)} {
			for _, value := range []string{"", "x", strings.Repeat("v", 64), strings.Repeat("v", 65), strings.Repeat("v", 256), strings.Repeat("v", 257)} {
				for _, data := range []string{"", "x", strings.Repeat("d", 32768), strings.Repeat("d", 32769)} {
					for _, keep := range keeps() {
						l = append(l, api.Op{Kind: kind, Name: name, Value: value, Keep: keep, Data: data})
					}
				}
			}
		}
	}
	return l
}

func TestCheckTellsTheFirstError(t *testing.T) {
	told := map[api.Errno]bool{}
	for _, o := range mixed() {
		want := plainCheck(o)
		checks(t, o, want)
		told[want] = true
	}
	for _, err := range []api.Errno{api.OK, api.ErrArg, api.ErrName, api.ErrLong, api.ErrForm} {
		if !told[err] {
			t.Errorf("no operation has error %d", err)
		}
	}
}

// Promise 19.2: May.

func TestMayTellsChecksErrorFirst(t *testing.T) {
	stores := [][]api.Fact{nil, {backup()}, facts(tags(64), backup())}
	for _, o := range mixed() {
		if err := plainCheck(o); err != api.OK {
			for _, l := range stores {
				mays(t, l, o, err)
			}
		}
	}
}

func TestMayCreateWhatIsNotThere(t *testing.T) {
	create := asked(api.OpCreate)
	for _, l := range [][]api.Fact{
		nil,
		{},
		{of("b", backup())},
		{of("", backup()), of("aa", backup()), of("A", backup())},
		// What else is said of a name makes no backup.
		{said(at(1, 1), api.FactLabel, "x"), said(at(1, 2), api.FactTag, "x"), said(at(1, 3), api.FactKeep, "12345678")},
		{said(at(1, 1), 0, "x"), said(at(1, 1), 5, "x"), said(at(1, 1), -1, "x")},
		tags(64),
	} {
		mays(t, l, create, api.OK)
		mays(t, facts(l, backup()), create, api.ErrExists)
		mays(t, facts([]api.Fact{backup()}, l...), create, api.ErrExists)
		mays(t, facts(l, backup(), said(at(3, 1), api.FactBackup, "")), create, api.ErrExists)
	}
}

func TestMayDoElseToWhatIsThere(t *testing.T) {
	x := said(at(2, 2), api.FactTag, "x")
	for _, o := range each()[1:] {
		for _, l := range [][]api.Fact{
			nil,
			{},
			{x},
			{of("b", backup()), x},
			{of("", backup()), of("aa", backup()), x},
			{said(at(1, 1), api.FactLabel, "x"), x, said(at(1, 3), api.FactKeep, "12345678"), said(at(1, 4), 0, "x"), said(at(1, 4), 5, "x")},
			// That there are too many tags is asked behind it.
			tags(64),
		} {
			mays(t, l, o, api.ErrNone)
			if slices.Contains(l, x) {
				mays(t, facts(l, backup()), o, api.OK)
				mays(t, facts([]api.Fact{backup()}, l...), o, api.OK)
			}
		}
	}
}

func TestMayTagUpToTheLimit(t *testing.T) {
	for _, n := range []int{0, 1, 2, 62, 63, 64, 65, 66, 128, 200} {
		want := api.OK
		if n >= 64 {
			want = api.ErrFull
		}
		l := facts(tags(n), backup())
		mays(t, l, tagging(api.OpTag, "x"), want)
		mays(t, l, tagging(api.OpTag, "t"), want)
		// A tag that is there may be given again, however many there are.
		for _, f := range tags(n) {
			mays(t, l, tagging(api.OpTag, f.Value), api.OK)
		}
		// Those that were given twice count once.
		twice := slices.Clone(l)
		for i, f := range tags(n) {
			twice = append(twice, said(at(3, i+1), api.FactTag, f.Value))
		}
		mays(t, twice, tagging(api.OpTag, "x"), want)
		// Other backups' tags, and what is no tag, count as none.
		for i := range 100 {
			value := strconv.Itoa(i)
			l = append(l, of("b", said(at(4, i+1), api.FactTag, value)), said(at(5, i+1), api.FactLabel, value), said(at(6, i+1), api.FactKeep, value), said(at(7, i+1), 0, value))
		}
		mays(t, l, tagging(api.OpTag, "x"), want)
		// Nor does a limit of tags limit what is no tagging.
		for _, o := range each()[3:] {
			mays(t, l, o, api.OK)
		}
	}
}

func TestMayUntagWhatHasTheTag(t *testing.T) {
	for _, n := range []int{0, 1, 2, 63, 64, 65, 128} {
		l := facts(tags(n), backup(), of("b", said(at(3, 1), api.FactTag, "x")), said(at(3, 2), api.FactLabel, "x"), said(at(3, 3), 0, "x"))
		for _, value := range []string{"x", "t", "", "t0 ", "t00", "T0"} {
			want := api.ErrNone
			if value == "" {
				want = api.ErrName
			}
			mays(t, l, tagging(api.OpUntag, value), want)
		}
		for _, f := range tags(n) {
			mays(t, l, tagging(api.OpUntag, f.Value), api.OK)
		}
		mays(t, facts(l, said(at(3, 4), api.FactTag, "x")), tagging(api.OpUntag, "x"), api.OK)
	}
}

// plainMay is what promise 19.2 says that May answers.
func plainMay(l []api.Fact, o api.Op) api.Errno {
	there, values := false, map[string]bool{}
	for _, f := range l {
		there = there || f.Name == o.Name && f.Kind == api.FactBackup
		if f.Name == o.Name && f.Kind == api.FactTag {
			values[f.Value] = true
		}
	}
	return first(
		fault{plainCheck(o) != api.OK, plainCheck(o)},
		fault{o.Kind == api.OpCreate && there, api.ErrExists},
		fault{o.Kind != api.OpCreate && !there, api.ErrNone},
		fault{o.Kind == api.OpTag && len(values) >= 64 && !values[o.Value], api.ErrFull},
		fault{o.Kind == api.OpUntag && !values[o.Value], api.ErrNone},
	)
}

func TestMayTellsTheFirstError(t *testing.T) {
	told := map[api.Errno]bool{}
	x := said(at(3, 1), api.FactTag, "x")
	for _, l := range [][]api.Fact{
		nil, {x}, {backup()}, {x, backup()}, tags(64), facts(tags(64), backup()), facts(tags(63), backup(), x), {of("b", backup()), x},
	} {
		for _, o := range mixed() {
			want := plainMay(l, o)
			mays(t, l, o, want)
			told[want] = true
		}
	}
	for _, err := range []api.Errno{api.OK, api.ErrArg, api.ErrName, api.ErrLong, api.ErrForm, api.ErrExists, api.ErrNone, api.ErrFull} {
		if !told[err] {
			t.Errorf("no operation has error %d", err)
		}
	}
}
