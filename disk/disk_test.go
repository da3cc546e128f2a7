package disk_test

import (
	"fmt"
	"math"
	"math/rand/v2"
	"slices"
	"strings"
	"testing"

	"almonry/api"
	"almonry/disk"
)

// fuseSeen is how many acts are tried to see a fuse.
const fuseSeen = 40

// made is a disk of so many bytes.
func made(t *testing.T, room int) *disk.Disk {
	t.Helper()
	d, err := disk.New(room)
	if err != api.OK || d == nil {
		t.Fatalf("New(%d) answers error %d, and a disk: %t", room, err, d != nil)
	}
	return d
}

// some is a disk of 10 bytes: a has xy, and the tail z; b has the tail q alone.
func some(t *testing.T) *disk.Disk {
	t.Helper()
	d := made(t, 10)
	done(t, "some's acts", d.Append("a", "xy"), d.Sync("a"), d.Append("b", "q"), d.Append("a", "z"))
	is(t, "some", d, "on 4 a=xy|z b=|q")
	return d
}

// done fails unless none of these is an error.
func done(t *testing.T, what string, errs ...api.Errno) {
	t.Helper()
	for i, err := range errs {
		if err != api.OK {
			t.Errorf("%s: error %d at place %d", what, err, i)
		}
	}
}

// answers fails unless the error is that one.
func answers(t *testing.T, what string, got, want api.Errno) {
	t.Helper()
	if got != want {
		t.Errorf("%s: error %d; want %d", what, got, want)
	}
}

// is fails unless this is all that can be told of the disk.
func is(t *testing.T, what string, d *disk.Disk, want string) {
	t.Helper()
	if got := told(d); got != want {
		t.Errorf("%s: the disk is\n%.300q\nwant\n%.300q", what, got, want)
	}
}

// told is all that can be told of a disk, as a text: whether it is on, how many bytes it has, of each file what is sure, and its tail, and the fuse of one that is on.
func told(d *disk.Disk) string {
	text := "on"
	if d.Off() {
		text = "off"
	}
	text += fmt.Sprintf(" %d", d.Used())
	whole, sure := d.Copy(), d.Copy()
	whole.Crash(math.MaxInt)
	sure.Crash(0)
	for _, name := range whole.List("") {
		all, _ := whole.Read(name)
		ahead, _ := sure.Read(name)
		tail, ok := strings.CutPrefix(all, ahead)
		if !ok {
			tail = fmt.Sprintf("(%s is not the beginning of %s)", ahead, all)
		}
		text += " " + name + "=" + ahead + "|" + tail
	}
	if !slices.Equal(whole.List(""), sure.List("")) {
		text += " and another list of files behind Crash(0)"
	}
	if n := fuseOf(d.Copy()); n < fuseSeen && !d.Off() {
		text += fmt.Sprintf(" fuse %d", n)
	}
	return text
}

// fuseOf is how many acts without errors of their own the disk does, before it answers ErrOff.
func fuseOf(d *disk.Disk) int {
	name := anyName(d)
	for n := range fuseSeen {
		if d.Append(name, "") == api.ErrOff {
			return n
		}
	}
	return fuseSeen
}

// anyName is the name of a file to which nothing can be appended without an error of that act's own: one that is there, if there are any.
func anyName(d *disk.Disk) string { return append(d.List(""), "f")[0] }

// turnOff makes power go, by an act that is then not done.
func turnOff(t *testing.T, d *disk.Disk) *disk.Disk {
	t.Helper()
	d.Fuse(0)
	answers(t, "an act at a fuse of 0", d.Append(anyName(d), ""), api.ErrOff)
	if !d.Off() {
		t.Fatal("a fuse of 0 leaves the disk on")
	}
	return d
}

// reads fails unless Read answers these bytes.
func reads(t *testing.T, d *disk.Disk, name, want string) {
	t.Helper()
	if got, err := d.Read(name); got != want || err != api.OK {
		t.Errorf("Read(%s) = %.60q, error %d; want %.60q", name, got, err, want)
	}
}

// readsNot fails unless Read answers this error, and nothing beside it.
func readsNot(t *testing.T, d *disk.Disk, name string, want api.Errno) {
	t.Helper()
	if got, err := d.Read(name); got != "" || err != want {
		t.Errorf("Read(%.80q) = %.60q, error %d; want error %d", name, got, err, want)
	}
}

// lists fails unless List answers these names.
func lists(t *testing.T, d *disk.Disk, prefix string, want ...string) {
	t.Helper()
	if got := d.List(prefix); !slices.Equal(got, want) {
		t.Errorf("List(%q) = %q; want %q", prefix, got, want)
	}
}

// Promise 6.1: New.

func TestNewRefusesOtherRooms(t *testing.T) {
	for _, room := range []int{math.MinInt, -api.MaxDisk, -2, -1, 1<<22 + 1, 1 << 23, 1 << 40, math.MaxInt} {
		d, err := disk.New(room)
		if err != api.ErrArg || d != nil {
			t.Errorf("New(%d) answers error %d, and a disk: %t", room, err, d != nil)
		}
	}
}

func TestNewHasNoFilesAndIsOn(t *testing.T) {
	for _, room := range []int{0, 1, 2, 100, 1<<22 - 1, 1 << 22} {
		d := made(t, room)
		is(t, fmt.Sprintf("New(%d)", room), d, "on 0")
		lists(t, d, "")
		readsNot(t, d, "a", api.ErrNone)
	}
}

func TestNewMakesAnotherDiskEachTime(t *testing.T) {
	a, b := made(t, 10), made(t, 10)
	done(t, "a's act", a.Append("a", "x"))
	turnOff(t, a)
	is(t, "the other one", b, "on 0")
}

// Promises 6.1 and 6.2: what each act asks, and in which order.

// anAct is an act, its own error on the disk of some, and what that disk is behind it.
type anAct struct {
	name string
	do   func(d *disk.Disk) api.Errno
	err  api.Errno
	then string
}

func appends(name, s string, err api.Errno, then string) anAct {
	return anAct{fmt.Sprintf("Append(%.20q, %.20q)", name, s), func(d *disk.Disk) api.Errno { return d.Append(name, s) }, err, then}
}

func syncs(name string, err api.Errno, then string) anAct {
	return anAct{fmt.Sprintf("Sync(%.20q)", name), func(d *disk.Disk) api.Errno { return d.Sync(name) }, err, then}
}

func renames(from, to string, err api.Errno, then string) anAct {
	return anAct{fmt.Sprintf("Rename(%.20q, %.20q)", from, to), func(d *disk.Disk) api.Errno { return d.Rename(from, to) }, err, then}
}

func removes(name string, err api.Errno, then string) anAct {
	return anAct{fmt.Sprintf("Remove(%.20q)", name), func(d *disk.Disk) api.Errno { return d.Remove(name) }, err, then}
}

// acts are each act with each of its own errors, with several at once, and without one.
func acts() []anAct {
	long := strings.Repeat("a", 65)
	return []anAct{
		appends("a", "", api.OK, "4 a=xy|z b=|q"),
		appends("a", "w", api.OK, "5 a=xy|zw b=|q"),
		appends("b", "123456", api.OK, "10 a=xy|z b=|q123456"),
		appends("c", "", api.OK, "4 a=xy|z b=|q c=|"),
		appends("c", "123456", api.OK, "10 a=xy|z b=|q c=|123456"),
		appends("a.", "w", api.OK, "5 a=xy|z a.=|w b=|q"),
		appends("0", "w", api.OK, "5 0=|w a=xy|z b=|q"),
		appends("", "", api.ErrName, ""),
		appends("A", "w", api.ErrName, ""),
		appends(long, "w", api.ErrName, ""),
		appends("a", "1234567", api.ErrFull, ""),
		appends("b", strings.Repeat("w", 1000), api.ErrFull, ""),
		appends("c", "1234567", api.ErrFull, ""),
		appends("", "1234567", api.ErrName, ""),
		appends("A", "1234567", api.ErrName, ""),
		appends(long, strings.Repeat("w", 1000), api.ErrName, ""),

		syncs("a", api.OK, "4 a=xyz| b=|q"),
		syncs("b", api.OK, "4 a=xy|z b=q|"),
		syncs("c", api.ErrNone, ""),
		syncs("", api.ErrNone, ""),
		syncs("A", api.ErrNone, ""),
		syncs(long, api.ErrNone, ""),

		renames("a", "c", api.OK, "4 b=|q c=xy|z"),
		renames("b", "0", api.OK, "4 0=|q a=xy|z"),
		renames("a", "b", api.OK, "3 b=xy|z"),
		renames("b", "a", api.OK, "1 a=|q"),
		renames("a", "a", api.OK, "4 a=xy|z b=|q"),
		renames("b", "b", api.OK, "4 a=xy|z b=|q"),
		renames("c", "d", api.ErrNone, ""),
		renames("c", "a", api.ErrNone, ""),
		renames("c", "c", api.ErrNone, ""),
		renames("", "c", api.ErrNone, ""),
		renames("A", "c", api.ErrNone, ""),
		renames("A", "A", api.ErrNone, ""),
		renames(long, "c", api.ErrNone, ""),
		renames("c", "", api.ErrNone, ""),
		renames("c", "A", api.ErrNone, ""),
		renames("", long, api.ErrNone, ""),
		renames("a", "", api.ErrName, ""),
		renames("a", "A", api.ErrName, ""),
		renames("b", long, api.ErrName, ""),

		removes("a", api.OK, "1 b=|q"),
		removes("b", api.OK, "3 a=xy|z"),
		removes("c", api.ErrNone, ""),
		removes("", api.ErrNone, ""),
		removes("A", api.ErrNone, ""),
		removes(long, api.ErrNone, ""),
	}
}

func TestAnActWithoutAFuse(t *testing.T) {
	for _, a := range acts() {
		d := some(t)
		answers(t, a.name, a.do(d), a.err)
		if a.err == api.OK {
			is(t, a.name, d, "on "+a.then)
		} else {
			is(t, a.name, d, "on 4 a=xy|z b=|q")
		}
	}
}

func TestAnActTakesOneOffTheFuseAndOneThatIsRefusedNone(t *testing.T) {
	for _, a := range acts() {
		for _, fuse := range []int{1, 2, 7} {
			d := some(t)
			d.Fuse(fuse)
			answers(t, a.name, a.do(d), a.err)
			if a.err == api.OK {
				is(t, a.name, d, fmt.Sprintf("on %s fuse %d", a.then, fuse-1))
			} else {
				is(t, a.name, d, fmt.Sprintf("on 4 a=xy|z b=|q fuse %d", fuse))
			}
		}
	}
}

// An act's own errors are ahead of the fuse: only an act that has none finds the fuse at 0, and turns the disk off.
func TestAnActAtAFuseOfNought(t *testing.T) {
	for _, a := range acts() {
		d := some(t)
		d.Fuse(0)
		if a.err == api.OK {
			answers(t, a.name, a.do(d), api.ErrOff)
			is(t, a.name, d, "off 4 a=xy|z b=|q")
		} else {
			answers(t, a.name, a.do(d), a.err)
			is(t, a.name, d, "on 4 a=xy|z b=|q fuse 0")
		}
	}
}

func TestAnActOfADiskThatIsOff(t *testing.T) {
	for _, a := range acts() {
		d := turnOff(t, some(t))
		answers(t, a.name, a.do(d), api.ErrOff)
		is(t, a.name, d, "off 4 a=xy|z b=|q")
		d.Fuse(3)
		answers(t, a.name+" with a fuse", a.do(d), api.ErrOff)
		is(t, a.name+" with a fuse", d, "off 4 a=xy|z b=|q")
		d.Crash(math.MaxInt)
		is(t, a.name+" and a crash", d, "on 4 a=xyz| b=q|")
	}
}

// Promise 6.2: names.

// nameBytes are the bytes that a name may have.
const nameBytes = "abcdefghijklmnopqrstuvwxyz0123456789.-"

// names fails unless Append and Rename take this name of a new file, or refuse it.
func names(t *testing.T, name string, fine bool) {
	t.Helper()
	want, then, renamed := api.ErrName, "on 0", "on 1 old=|x"
	if fine {
		want, then, renamed = api.OK, "on 1 "+name+"=|x", "on 1 "+name+"=|x"
	}
	d := made(t, 1)
	answers(t, fmt.Sprintf("Append(%q)", name), d.Append(name, "x"), want)
	is(t, fmt.Sprintf("Append(%q)", name), d, then)
	d = made(t, 1)
	done(t, "Append(old)", d.Append("old", "x"))
	answers(t, fmt.Sprintf("Rename to %q", name), d.Rename("old", name), want)
	is(t, fmt.Sprintf("Rename to %q", name), d, renamed)
}

func TestNamesOfEachLength(t *testing.T) {
	for n := range 200 {
		names(t, strings.Repeat("n", n), n >= 1 && n <= 64)
		names(t, strings.Repeat("-", n), n >= 1 && n <= 64)
	}
	names(t, strings.Repeat("n", 1<<16), false)
	names(t, strings.Repeat("ä", 32), false)
}

func TestNamesWithEachByteAtEachPlace(t *testing.T) {
	for n := range 256 {
		b := string([]byte{byte(n)})
		fine := strings.Contains(nameBytes, b)
		for _, name := range []string{b, b + b, b + "a", "a" + b, "a" + b + "a", b + strings.Repeat("z", 63), strings.Repeat("z", 63) + b, strings.Repeat("z", 31) + b + strings.Repeat("z", 32)} {
			names(t, name, fine)
		}
		names(t, b+strings.Repeat("z", 64), false)
	}
}

func TestNamesWithWhatIsNextToWhatMayBe(t *testing.T) {
	for _, name := range []string{"a", "z", "0", "9", ".", "-", "..", "--", "az09.-", "-a", ".a", "log-00000001", "log-new"} {
		names(t, name, true)
	}
	for _, name := range []string{"A", "Z", "`", "{", "/", ":", ",", "_", "+", "@", "[", " ", "\x00", "\x7f", "\x80", "\xff", "aA", "a/b", "a_b", "a b", "a\n", "ä", "é", "ı", "٣", "ａ", "−", "．"} {
		names(t, name, false)
	}
}

func TestANameOfAFileThatIsThereIsItsWhole(t *testing.T) {
	d := made(t, 10)
	done(t, "Append", d.Append("abc", "x"))
	for _, name := range []string{"", "a", "ab", "abcd", "bc", "ABC", "abc ", "abc\x00"} {
		answers(t, fmt.Sprintf("Sync(%q)", name), d.Sync(name), api.ErrNone)
		answers(t, fmt.Sprintf("Remove(%q)", name), d.Remove(name), api.ErrNone)
		answers(t, fmt.Sprintf("Rename(%q)", name), d.Rename(name, "d"), api.ErrNone)
		readsNot(t, d, name, api.ErrNone)
	}
	is(t, "the disk", d, "on 1 abc=|x")
}

// Promise 6.2: Append.

func TestAppendsStandOneBehindTheOther(t *testing.T) {
	d := made(t, 1000)
	all := ""
	for n := range 40 {
		s := strings.Repeat(string(rune('a'+n%26)), n)
		done(t, "Append", d.Append("f", s))
		all += s
		reads(t, d, "f", all)
		if d.Used() != len(all) {
			t.Errorf("Used() = %d behind %d bytes", d.Used(), len(all))
		}
	}
	is(t, "the disk", d, "on 780 f=|"+all)
}

func TestAppendTakesAnyBytes(t *testing.T) {
	d := made(t, 1000)
	var all []byte
	for n := range 256 {
		all = append(all, byte(n))
		done(t, "Append", d.Append("f", string(all[n:])))
	}
	reads(t, d, "f", string(all))
	done(t, "Sync", d.Sync("f"))
	d.Crash(0)
	reads(t, d, "f", string(all))
}

func TestAppendOfNoBytesMakesAFile(t *testing.T) {
	d := made(t, 0)
	done(t, "Append", d.Append("f", ""), d.Append("f", ""), d.Append("e", ""))
	is(t, "the disk", d, "on 0 e=| f=|")
	d.Crash(0)
	is(t, "behind a crash", d, "on 0 e=| f=|")
	answers(t, "Append of a byte without room", d.Append("f", "x"), api.ErrFull)
	is(t, "behind it", d, "on 0 e=| f=|")
}

func TestAppendUpToRoom(t *testing.T) {
	for room := range 12 {
		d := made(t, room)
		for n := range room {
			done(t, "Append", d.Append(string(nameBytes[n%3]), "x"))
			if d.Used() != n+1 {
				t.Errorf("Used() = %d behind %d bytes", d.Used(), n+1)
			}
		}
		ahead := told(d)
		for _, name := range []string{"a", "b", "c", "new"} {
			answers(t, "Append of one byte more", d.Append(name, "x"), api.ErrFull)
			answers(t, "Append of two bytes more", d.Append(name, "xy"), api.ErrFull)
		}
		is(t, "the full disk", d, ahead)
		done(t, "Append of no byte", d.Append("new", ""))
	}
}

// All files count together, what is sure and tails alike.
func TestAppendCountsAllFiles(t *testing.T) {
	for more := range 8 {
		d := made(t, 10)
		done(t, "acts", d.Append("a", "12"), d.Sync("a"), d.Append("a", "3"), d.Append("b", "4"), d.Append("c", "5"), d.Sync("c"))
		want := api.OK
		if more > 5 {
			want = api.ErrFull
		}
		for _, name := range []string{"a", "b", "c", "d"} {
			answers(t, fmt.Sprintf("Append of %d bytes to %s", more, name), d.Copy().Append(name, strings.Repeat("x", more)), want)
		}
	}
}

func TestAppendToAGreatDisk(t *testing.T) {
	d := made(t, api.MaxDisk)
	part := strings.Repeat("0123456789abcde\n", 4)
	for range api.MaxDisk / 64 {
		if err := d.Append("f", part); err != api.OK {
			t.Fatalf("error %d at %d bytes", err, d.Used())
		}
	}
	reads(t, d, "f", strings.Repeat(part, api.MaxDisk/64))
	answers(t, "one byte more", d.Append("f", "x"), api.ErrFull)
	done(t, "Remove", d.Remove("f"))
	answers(t, "a byte more at once", d.Append("f", strings.Repeat("x", api.MaxDisk+1)), api.ErrFull)
	done(t, "all at once", d.Append("f", strings.Repeat("x", api.MaxDisk)))
	answers(t, "one byte more", d.Append("g", "x"), api.ErrFull)
	is(t, "the full disk", d, "on 4194304 f=|"+strings.Repeat("x", api.MaxDisk))
}

// Room comes back by what is removed, replaced, and lost.
func TestRoomComesBack(t *testing.T) {
	for _, c := range []struct {
		name string
		free func(d *disk.Disk)
		room int
	}{
		{"nothing", func(d *disk.Disk) {}, 0},
		{"Remove", func(d *disk.Disk) { d.Remove("a") }, 5},
		{"Rename in place of a file", func(d *disk.Disk) { d.Rename("a", "b") }, 5},
		{"Rename to another name", func(d *disk.Disk) { d.Rename("a", "c") }, 0},
		{"Rename to the same name", func(d *disk.Disk) { d.Rename("a", "a") }, 0},
		{"Crash(0)", func(d *disk.Disk) { d.Crash(0) }, 6},
		{"Crash(1)", func(d *disk.Disk) { d.Crash(1) }, 4},
		{"Crash(100)", func(d *disk.Disk) { d.Crash(100) }, 0},
	} {
		d := made(t, 10)
		done(t, "acts", d.Append("a", "12"), d.Sync("a"), d.Append("a", "345"), d.Append("b", "67"), d.Sync("b"), d.Append("b", "890"))
		c.free(d)
		if d.Used() != 10-c.room {
			t.Errorf("%s: Used() = %d; want %d", c.name, d.Used(), 10-c.room)
		}
		answers(t, c.name+", and one byte too many", d.Append("b", strings.Repeat("x", c.room+1)), api.ErrFull)
		answers(t, c.name+", and as many as there is room for", d.Append("b", strings.Repeat("x", c.room)), api.OK)
	}
}

// crowd is a disk with so many files, each with its number, that is sure, as bytes.
func crowd(t *testing.T, n int) *disk.Disk {
	t.Helper()
	d := made(t, api.MaxDisk)
	for i := range n {
		name := fmt.Sprint("f", i*7919%n)
		done(t, "Append to "+name, d.Append(name, name[1:]), d.Sync(name))
	}
	return d
}

func TestAppendUpToMaxFiles(t *testing.T) {
	d := crowd(t, 1024)
	ahead := told(d)
	for _, name := range []string{"g", "0", "f1024", "f00"} {
		for _, s := range []string{"", "x", strings.Repeat("x", api.MaxDisk)} {
			answers(t, "Append to a file more", d.Append(name, s), api.ErrFull)
		}
	}
	answers(t, "Append to a bad name", d.Append("F", ""), api.ErrName)
	d.Fuse(0)
	answers(t, "Append to a file more, at a fuse of 0", d.Append("g", ""), api.ErrFull)
	d.Fuse(-1)
	is(t, "the full disk", d, ahead)
	done(t, "acts on files that are there", d.Append("f5", "x"), d.Append("f1023", ""), d.Rename("f7", "g"), d.Rename("g", "f9"))
	reads(t, d, "f5", "5x")
	reads(t, d, "f9", "7")
	done(t, "Append to a file more, behind a Rename in place", d.Append("h", "x"))
	answers(t, "Append to another one", d.Append("i", ""), api.ErrFull)
	done(t, "Remove, and Append to a file more", d.Remove("f8"), d.Append("i", ""))
	answers(t, "Append to another one", d.Append("j", ""), api.ErrFull)
	if n := len(d.List("")); n != 1024 {
		t.Errorf("%d files", n)
	}
	turnOff(t, d).Crash(0)
	answers(t, "Append to another one behind a crash", d.Append("j", ""), api.ErrFull)
}

func TestEachOfManyFilesIsFound(t *testing.T) {
	for _, n := range []int{1, 2, 3, 10, 1023, 1024} {
		d := crowd(t, n)
		for i := range n {
			reads(t, d, fmt.Sprint("f", i), fmt.Sprint(i))
		}
		for i := 0; i < n; i += 2 {
			done(t, "Remove", d.Remove(fmt.Sprint("f", i)))
		}
		for i := range n {
			if name := fmt.Sprint("f", i); i%2 == 0 {
				readsNot(t, d, name, api.ErrNone)
			} else {
				reads(t, d, name, fmt.Sprint(i))
			}
		}
	}
}

// Promises 6.2 and 6.3: Sync and Crash.

func TestCrashKeepsTheBeginningOfATail(t *testing.T) {
	for _, c := range []struct {
		keep int
		want string
	}{
		{math.MinInt, "xy"}, {-100, "xy"}, {-1, "xy"}, {0, "xy"},
		{1, "xyz"}, {2, "xyzw"}, {3, "xyzwv"},
		{4, "xyzwv"}, {5, "xyzwv"}, {100, "xyzwv"}, {math.MaxInt, "xyzwv"},
	} {
		d := made(t, 10)
		done(t, "acts", d.Append("a", "xy"), d.Sync("a"), d.Append("a", "zw"), d.Append("a", "v"))
		what := fmt.Sprintf("Crash(%d)", c.keep)
		other := turnOff(t, d.Copy())
		d.Crash(c.keep)
		other.Crash(c.keep)
		want := fmt.Sprintf("on %d a=%s|", len(c.want), c.want)
		is(t, what, d, want)
		is(t, what+" of a disk that was off", other, want)
		for _, again := range []int{-1, 0, 1, math.MaxInt} {
			d.Crash(again)
			is(t, what+" and another one", d, want)
		}
		done(t, "Append", d.Append("a", "!?"))
		is(t, what+" and Append", d, fmt.Sprintf("on %d a=%s|!?", len(c.want)+2, c.want))
		d.Crash(1)
		is(t, what+", Append and Crash(1)", d, fmt.Sprintf("on %d a=%s!|", len(c.want)+1, c.want))
	}
}

func TestCrashOfSeveralFiles(t *testing.T) {
	for _, c := range []struct {
		keep int
		want string
	}{
		{-1, "on 7 a=xy| b=| c=mno| d=| e=pq|"},
		{0, "on 7 a=xy| b=| c=mno| d=| e=pq|"},
		{1, "on 10 a=xyz| b=q| c=mno| d=| e=pq1|"},
		{2, "on 12 a=xyz| b=qr| c=mno| d=| e=pq12|"},
		{3, "on 13 a=xyz| b=qr| c=mno| d=| e=pq123|"},
		{1000, "on 13 a=xyz| b=qr| c=mno| d=| e=pq123|"},
	} {
		d := made(t, 100)
		done(t, "acts", d.Append("e", "pq"), d.Append("c", "mno"), d.Append("a", "xy"), d.Append("d", ""),
			d.Sync("a"), d.Sync("c"), d.Sync("e"),
			d.Append("b", "qr"), d.Append("a", "z"), d.Append("e", "123"))
		is(t, "ahead", d, "on 13 a=xy|z b=|qr c=mno| d=| e=pq|123")
		d.Crash(c.keep)
		is(t, fmt.Sprintf("Crash(%d)", c.keep), d, c.want)
	}
}

func TestSyncMakesAllOfOneFileSure(t *testing.T) {
	d := made(t, 100)
	done(t, "acts", d.Append("a", "1"), d.Append("a", "2"), d.Append("b", "3"), d.Sync("a"))
	is(t, "behind Sync", d, "on 3 a=12| b=|3")
	done(t, "more acts", d.Append("a", "4"), d.Append("b", "5"), d.Sync("b"), d.Sync("b"))
	is(t, "behind another Sync", d, "on 5 a=12|4 b=35|")
	done(t, "Sync of a tail behind what is sure", d.Sync("a"))
	is(t, "behind the last one", d, "on 5 a=124| b=35|")
	d.Crash(0)
	is(t, "behind a crash", d, "on 5 a=124| b=35|")
}

func TestAFileThatWasNeverMadeSureIsThere(t *testing.T) {
	d := made(t, 100)
	done(t, "Append", d.Append("a", "12"))
	d.Crash(0)
	is(t, "behind a crash", d, "on 0 a=|")
	done(t, "Append", d.Append("a", "3"))
	is(t, "behind Append", d, "on 1 a=|3")
	done(t, "Sync", d.Sync("a"))
	d.Crash(0)
	reads(t, d, "a", "3")
}

func TestCrashTurnsOnAndLeavesNoFuse(t *testing.T) {
	d := some(t)
	d.Fuse(3)
	d.Crash(0)
	is(t, "one that was on, with a fuse", d, "on 2 a=xy| b=|")
	d = turnOff(t, some(t))
	d.Crash(0)
	is(t, "one that was off", d, "on 2 a=xy| b=|")
	d = turnOff(t, some(t))
	d.Fuse(2)
	is(t, "one that is off, with a fuse", d, "off 4 a=xy|z b=|q")
	d.Crash(0)
	is(t, "one that was off, with a fuse", d, "on 2 a=xy| b=|")
	d.Fuse(2)
	is(t, "one with a fuse behind a crash", d, "on 2 a=xy| b=| fuse 2")
	d = made(t, 0)
	d.Crash(5)
	is(t, "one without files", d, "on 0")
}

func TestExamples(t *testing.T) {
	d := made(t, 100)
	done(t, "acts", d.Append("a", "xy"), d.Sync("a"), d.Append("a", "z"))
	d.Crash(0)
	reads(t, d, "a", "xy")
}

// Promise 6.2: Rename and Remove.

func TestRenameAmongOtherFiles(t *testing.T) {
	all := []string{"a", "c", "e", "g", "i"}
	for _, from := range all {
		for _, to := range []string{"-", "a", "b", "c", "d", "e", "f", "g", "h", "i", "j"} {
			d, want := made(t, 100), newPlain(100)
			for _, name := range all {
				done(t, "Append", d.Append(name, name+name), d.Sync(name), d.Append(name, "-"+name))
				want.sure[name], want.tail[name] = name+name, "-"+name
			}
			done(t, "Rename", d.Rename(from, to))
			want.rename(from, to)
			is(t, fmt.Sprintf("Rename(%s, %s)", from, to), d, want.told())
			d.Crash(1)
			want.crash(1)
			is(t, fmt.Sprintf("Rename(%s, %s) and Crash(1)", from, to), d, want.told())
		}
	}
}

// A name is sure at once, but no byte becomes so by it: neither those that are renamed, nor those whose place they take.
func TestRenameLeavesBytesAsSureAsTheyWere(t *testing.T) {
	for _, c := range []struct{ from, to, want, crashed string }{
		{"none", "new", "on 8 all=xy| new=|12 part=a|bcd", "on 3 all=xy| new=| part=a|"},
		{"none", "all", "on 6 all=|12 part=a|bcd", "on 1 all=| part=a|"},
		{"none", "part", "on 4 all=xy| part=|12", "on 2 all=xy| part=|"},
		{"all", "none", "on 6 none=xy| part=a|bcd", "on 3 none=xy| part=a|"},
		{"all", "part", "on 4 none=|12 part=xy|", "on 2 none=| part=xy|"},
		{"part", "all", "on 6 all=a|bcd none=|12", "on 1 all=a| none=|"},
		{"part", "part", "on 8 all=xy| none=|12 part=a|bcd", "on 3 all=xy| none=| part=a|"},
	} {
		d := made(t, 100)
		done(t, "acts", d.Append("all", "xy"), d.Sync("all"), d.Append("part", "a"), d.Sync("part"), d.Append("part", "bcd"), d.Append("none", "12"))
		done(t, "Rename", d.Rename(c.from, c.to))
		is(t, fmt.Sprintf("Rename(%s, %s)", c.from, c.to), d, c.want)
		d.Crash(0)
		is(t, fmt.Sprintf("Rename(%s, %s) and a crash", c.from, c.to), d, c.crashed)
	}
}

func TestAfterRenameTheOldNameIsNew(t *testing.T) {
	d := some(t)
	done(t, "acts", d.Rename("a", "c"), d.Append("a", "w"))
	is(t, "the old name, again", d, "on 5 a=|w b=|q c=xy|z")
	done(t, "acts", d.Append("c", "v"), d.Sync("c"))
	is(t, "the new one, with more", d, "on 6 a=|w b=|q c=xyzv|")
}

func TestRemoveIsSureAtOnceAndLeavesNothing(t *testing.T) {
	d := some(t)
	done(t, "Remove", d.Remove("a"))
	answers(t, "Remove again", d.Remove("a"), api.ErrNone)
	readsNot(t, d, "a", api.ErrNone)
	whole := d.Copy()
	whole.Crash(math.MaxInt)
	is(t, "behind a crash", whole, "on 1 b=q|")
	done(t, "a new one of that name", d.Append("a", "w"))
	is(t, "a new one of that name", d, "on 2 a=|w b=|q")
	d.Crash(0)
	is(t, "the new one behind a crash", d, "on 0 a=| b=|")
}

// Promise 6.3: Read, List, Used.

func TestReadAnswersWhatIsSureAndTheTail(t *testing.T) {
	d := some(t)
	reads(t, d, "a", "xyz")
	reads(t, d, "b", "q")
	for _, name := range []string{"", "c", "A", "ab", strings.Repeat("a", 65)} {
		readsNot(t, d, name, api.ErrNone)
	}
	is(t, "behind Read", d, "on 4 a=xy|z b=|q")
	turnOff(t, d)
	for _, name := range []string{"a", "b", "", "c", "A"} {
		readsNot(t, d, name, api.ErrOff)
	}
	is(t, "behind Read of one that is off", d, "off 4 a=xy|z b=|q")
}

func TestWhatWasReadStays(t *testing.T) {
	d := some(t)
	ahead, _ := d.Read("a")
	d.Crash(0)
	done(t, "acts", d.Append("a", "!!!"), d.Rename("b", "a"), d.Append("a", "???"))
	if ahead != "xyz" {
		t.Errorf("what was read is %q behind other acts", ahead)
	}
}

func TestListRisesByBytes(t *testing.T) {
	d := made(t, 0)
	for _, name := range []string{"b", "a", "z", "aa", "a.", "a-", "a0", "-", ".", "0", "9", "10", "ab", "a.b", "a-b", "za", "--", "-a"} {
		done(t, "Append", d.Append(name, ""))
	}
	lists(t, d, "", "-", "--", "-a", ".", "0", "10", "9", "a", "a-", "a-b", "a.", "a.b", "a0", "aa", "ab", "b", "z", "za")
	lists(t, d, "a", "a", "a-", "a-b", "a.", "a.b", "a0", "aa", "ab")
	lists(t, d, "a-", "a-", "a-b")
	lists(t, d, "a.b", "a.b")
	lists(t, d, "-", "-", "--", "-a")
	lists(t, d, "1", "10")
	lists(t, d, "z", "z", "za")
	for _, prefix := range []string{"c", "zz", "zaa", "A", "_", "a.bc", "\x00", "\xff", "ab ", strings.Repeat("a", 65), strings.Repeat("a", 1<<16)} {
		lists(t, d, prefix)
	}
	turnOff(t, d)
	for _, prefix := range []string{"", "a", "c"} {
		lists(t, d, prefix)
	}
	d.Crash(0)
	lists(t, d, "a.", "a.", "a.b")
}

func TestListIsOneOfItsOwn(t *testing.T) {
	d := some(t)
	l, other := d.List(""), d.List("")
	l[0], l[1] = "y", "z"
	if !slices.Equal(other, []string{"a", "b"}) {
		t.Errorf("another list is %q behind what was written to the first one", other)
	}
	lists(t, d, "", "a", "b")
	done(t, "Remove", d.Remove("a"))
	if !slices.Equal(other, []string{"a", "b"}) {
		t.Errorf("a list is %q behind Remove", other)
	}
}

func TestUsedBehindEachAct(t *testing.T) {
	d := made(t, 100)
	for i, c := range []struct {
		do   func() api.Errno
		want int
	}{
		{func() api.Errno { return d.Append("a", "") }, 0},
		{func() api.Errno { return d.Append("a", "12345") }, 5},
		{func() api.Errno { return d.Append("b", "123") }, 8},
		{func() api.Errno { return d.Sync("a") }, 8},
		{func() api.Errno { return d.Append("a", "67") }, 10},
		{func() api.Errno { return d.Rename("a", "c") }, 10},
		{func() api.Errno { return d.Append("a", "1") }, 11},
		{func() api.Errno { return d.Rename("a", "b") }, 8},
		{func() api.Errno { d.Crash(1); return api.OK }, 7},
		{func() api.Errno { return d.Append("d", "1234") }, 11},
		{func() api.Errno { d.Crash(0); return api.OK }, 7},
		{func() api.Errno { return d.Append("d", "12") }, 9},
		{func() api.Errno { turnOff(t, d); return api.OK }, 9},
		{func() api.Errno { d.Crash(9); return api.OK }, 9},
		{func() api.Errno { return d.Remove("c") }, 3},
		{func() api.Errno { return d.Remove("b") }, 2},
		{func() api.Errno { return d.Remove("d") }, 0},
	} {
		done(t, fmt.Sprintf("act %d", i), c.do())
		if d.Used() != c.want {
			t.Errorf("Used() = %d behind act %d; want %d", d.Used(), i, c.want)
		}
	}
}

// Promises 6.1 and 6.3: the fuse, and Off.

func TestFuseLetsSoManyActsBeDone(t *testing.T) {
	for fuse := range 12 {
		d := made(t, 100)
		d.Fuse(fuse)
		acts := []func() api.Errno{
			func() api.Errno { return d.Append("a", "1") },
			func() api.Errno { return d.Append("b", "") },
			func() api.Errno { return d.Sync("a") },
			func() api.Errno { return d.Rename("a", "c") },
			func() api.Errno { return d.Rename("c", "c") },
			func() api.Errno { return d.Rename("c", "a") },
			func() api.Errno { return d.Remove("b") },
		}
		for n := range fuse {
			done(t, fmt.Sprintf("act %d of %d", n, fuse), acts[n%len(acts)]())
			if d.Off() {
				t.Fatalf("a fuse of %d is off behind %d acts", fuse, n+1)
			}
		}
		if d.Off() {
			t.Errorf("a fuse of %d is off ahead of the next act", fuse)
		}
		ahead := d.Copy()
		ahead.Fuse(-1)
		answers(t, fmt.Sprintf("the act behind %d", fuse), acts[fuse%len(acts)](), api.ErrOff)
		if want := strings.Replace(told(ahead), "on", "off", 1); told(d) != want {
			t.Errorf("behind a fuse of %d the disk is %q; want %q", fuse, told(d), want)
		}
	}
}

func TestOnlyActsUseTheFuse(t *testing.T) {
	d := some(t)
	d.Fuse(2)
	for range 5 {
		reads(t, d, "a", "xyz")
		readsNot(t, d, "c", api.ErrNone)
		lists(t, d, "", "a", "b")
		d.Used()
		d.Off()
		d.Copy()
		answers(t, "Append", d.Append("A", ""), api.ErrName)
		answers(t, "Append", d.Append("a", "1234567"), api.ErrFull)
		answers(t, "Sync", d.Sync("c"), api.ErrNone)
		answers(t, "Rename", d.Rename("c", "d"), api.ErrNone)
		answers(t, "Rename", d.Rename("a", "A"), api.ErrName)
		answers(t, "Remove", d.Remove("c"), api.ErrNone)
	}
	is(t, "behind what are no acts", d, "on 4 a=xy|z b=|q fuse 2")
}

func TestFuseBehindAnother(t *testing.T) {
	for _, c := range []struct {
		fuses []int
		want  string
	}{
		{[]int{-1}, ""},
		{[]int{math.MinInt}, ""},
		{[]int{math.MaxInt}, ""},
		{[]int{0}, " fuse 0"},
		{[]int{5}, " fuse 5"},
		{[]int{5, 2}, " fuse 2"},
		{[]int{2, 5}, " fuse 5"},
		{[]int{0, 3}, " fuse 3"},
		{[]int{3, 0}, " fuse 0"},
		{[]int{3, -1}, ""},
		{[]int{0, -7}, ""},
		{[]int{3, math.MinInt}, ""},
		{[]int{-1, 4}, " fuse 4"},
	} {
		d := some(t)
		for _, n := range c.fuses {
			d.Fuse(n)
		}
		is(t, fmt.Sprint("fuses ", c.fuses), d, "on 4 a=xy|z b=|q"+c.want)
		d.Fuse(4)
		done(t, "acts", d.Sync("a"), d.Append("a", "w"))
		is(t, "two acts of four", d, "on 5 a=xyz|w b=|q fuse 2")
		for _, n := range c.fuses {
			d.Fuse(n)
		}
		is(t, fmt.Sprint("between acts fuses ", c.fuses), d, "on 5 a=xyz|w b=|q"+c.want)
	}
}

func TestNoFuseOfADiskWithoutOne(t *testing.T) {
	d := made(t, 5000)
	d.Fuse(1)
	d.Fuse(-1)
	for range 5000 {
		done(t, "Append", d.Append("a", "x"))
	}
	if d.Used() != 5000 || d.Off() {
		t.Errorf("behind many acts %d bytes, and off: %t", d.Used(), d.Off())
	}
}

func TestFuseOfADiskThatIsOffTurnsNothingOn(t *testing.T) {
	for _, n := range []int{math.MinInt, -1, 0, 1, 100, math.MaxInt} {
		d := turnOff(t, some(t))
		d.Fuse(n)
		is(t, fmt.Sprintf("Fuse(%d)", n), d, "off 4 a=xy|z b=|q")
		for range 3 {
			answers(t, "Sync", d.Sync("a"), api.ErrOff)
		}
		d.Crash(0)
		is(t, fmt.Sprintf("Fuse(%d), and Crash", n), d, "on 2 a=xy| b=|")
	}
}

func TestOffTellsAlone(t *testing.T) {
	d := some(t)
	for range 3 {
		if d.Off() {
			t.Error("Off of a disk that is on")
		}
	}
	turnOff(t, d)
	for range 3 {
		if !d.Off() {
			t.Error("no Off of a disk that is off")
		}
	}
	if other := d.Copy(); !other.Off() || other.Used() != 4 {
		t.Errorf("the Copy of a disk that is off: off: %t, %d bytes", other.Off(), other.Used())
	}
}

// Promise 6.3: Copy.

// changes are what may be done to a disk, its files and its fuse.
func changes() map[string]func(d *disk.Disk) {
	return map[string]func(d *disk.Disk){
		"Append to a tail":           func(d *disk.Disk) { d.Append("a", "w") },
		"Append of more":             func(d *disk.Disk) { d.Append("b", "wwwwww") },
		"Append to a new file":       func(d *disk.Disk) { d.Append("-", "w") },
		"Append to a last file":      func(d *disk.Disk) { d.Append("z", "") },
		"Sync":                       func(d *disk.Disk) { d.Sync("a") },
		"Rename":                     func(d *disk.Disk) { d.Rename("a", "z") },
		"Rename in place":            func(d *disk.Disk) { d.Rename("a", "b") },
		"Remove":                     func(d *disk.Disk) { d.Remove("a") },
		"Remove of all":              func(d *disk.Disk) { d.Remove("a"); d.Remove("b") },
		"Fuse(0)":                    func(d *disk.Disk) { d.Fuse(0) },
		"Fuse(5)":                    func(d *disk.Disk) { d.Fuse(5) },
		"Fuse(-1)":                   func(d *disk.Disk) { d.Fuse(-1) },
		"Fuse(0) and Sync":           func(d *disk.Disk) { d.Fuse(0); d.Sync("b") },
		"Crash(0)":                   func(d *disk.Disk) { d.Crash(0) },
		"Crash(1)":                   func(d *disk.Disk) { d.Crash(1) },
		"Crash(0) and other bytes":   func(d *disk.Disk) { d.Crash(0); d.Append("a", "w"); d.Append("b", "v") },
		"Crash(0) and a new file":    func(d *disk.Disk) { d.Crash(0); d.Append("aa", "w") },
		"Remove and one of its name": func(d *disk.Disk) { d.Remove("a"); d.Append("a", "w") },
	}
}

func TestCopyIsTheSame(t *testing.T) {
	for name, change := range changes() {
		d := some(t)
		change(d)
		is(t, name+", and Copy", d.Copy(), told(d))
		is(t, name+", and Copy of Copy", d.Copy().Copy(), told(d))
	}
	is(t, "Copy of an empty one", made(t, 0).Copy(), "on 0")
	if d := made(t, 3).Copy(); d.Append("a", "123") != api.OK || d.Append("a", "4") != api.ErrFull {
		t.Error("a Copy has another room")
	}
}

func TestCopyIsOneOfItsOwn(t *testing.T) {
	for first, prepare := range changes() {
		for name, change := range changes() {
			d := some(t)
			prepare(d)
			ahead := told(d)
			other := d.Copy()
			change(other)
			is(t, first+"; behind "+name+" of the Copy", d, ahead)
			other = d.Copy()
			change(d)
			is(t, first+"; the Copy, behind "+name, other, ahead)
		}
	}
}

func TestCopyAndDiskGoOnApart(t *testing.T) {
	d := some(t)
	done(t, "Append", d.Append("a", "1"))
	other := d.Copy()
	for range 2 {
		done(t, "Append to either", d.Append("a", "2"), other.Append("a", "3"))
	}
	is(t, "the disk", d, "on 7 a=xy|z122 b=|q")
	is(t, "the Copy", other, "on 7 a=xy|z133 b=|q")
	d.Crash(1)
	done(t, "Append", d.Append("a", "456"))
	is(t, "the disk behind a crash", d, "on 7 a=xyz|456 b=q|")
	is(t, "the Copy as it was", other, "on 7 a=xy|z133 b=|q")
}

// The last sentence of the chapter: what is answered on nil.

func TestNil(t *testing.T) {
	var d *disk.Disk
	d.Fuse(0)
	d.Fuse(-1)
	d.Crash(0)
	for _, name := range []string{"a", "", "A"} {
		answers(t, "Append", d.Append(name, "x"), api.ErrNil)
		answers(t, "Sync", d.Sync(name), api.ErrNil)
		answers(t, "Rename", d.Rename(name, "b"), api.ErrNil)
		answers(t, "Rename", d.Rename("b", name), api.ErrNil)
		answers(t, "Remove", d.Remove(name), api.ErrNil)
		readsNot(t, d, name, api.ErrNil)
		lists(t, d, name)
	}
	if !d.Off() {
		t.Error("nil is not Off")
	}
	if d.Used() != 0 {
		t.Errorf("Used of nil is %d", d.Used())
	}
	if d.Copy() != nil {
		t.Error("Copy of nil is not nil")
	}
}

// Scripts of many acts, against a plain model.

// plain is the chapter's words once more: of each file what is sure, and its tail; a fuse below 0 is none.
type plain struct {
	room       int
	sure, tail map[string]string
	off        bool
	fuse       int
}

func newPlain(room int) *plain {
	return &plain{room: room, sure: map[string]string{}, tail: map[string]string{}, fuse: -1}
}

func (p *plain) has(name string) bool {
	_, there := p.sure[name]
	return there
}

func (p *plain) used() int {
	n := 0
	for name := range p.sure {
		n += len(p.sure[name] + p.tail[name])
	}
	return n
}

func (p *plain) list(prefix string) []string {
	var l []string
	for name := range p.sure {
		if !p.off && len(name) >= len(prefix) && name[:len(prefix)] == prefix {
			l = append(l, name)
		}
	}
	slices.Sort(l)
	return l
}

// told is what told tells of a disk that is this one.
func (p *plain) told() string {
	text := map[bool]string{false: "on", true: "off"}[p.off] + fmt.Sprintf(" %d", p.used())
	all := plain{sure: p.sure}
	for _, name := range all.list("") {
		text += " " + name + "=" + p.sure[name] + "|" + p.tail[name]
	}
	if p.fuse >= 0 && p.fuse < fuseSeen && !p.off {
		text += fmt.Sprintf(" fuse %d", p.fuse)
	}
	return text
}

func badName(name string) bool {
	return len(name) < 1 || len(name) > 64 || strings.Trim(name, nameBytes) != ""
}

// end is the end of an act: of a disk that is off, of its own error, or of the fuse; it tells whether the act is done.
func (p *plain) end(own api.Errno) (api.Errno, bool) {
	switch {
	case p.off:
		return api.ErrOff, false
	case own != api.OK:
		return own, false
	case p.fuse == 0:
		p.off = true
		return api.ErrOff, false
	}
	p.fuse = max(p.fuse-1, -1)
	return api.OK, true
}

func (p *plain) append(name, s string) api.Errno {
	own := api.OK
	if badName(name) {
		own = api.ErrName
	} else if p.used()+len(s) > p.room || !p.has(name) && len(p.sure) >= 1024 {
		own = api.ErrFull
	}
	err, ok := p.end(own)
	if ok {
		p.sure[name] += ""
		p.tail[name] += s
	}
	return err
}

func (p *plain) sync(name string) api.Errno {
	own := api.OK
	if !p.has(name) {
		own = api.ErrNone
	}
	err, ok := p.end(own)
	if ok {
		p.sure[name] += p.tail[name]
		p.tail[name] = ""
	}
	return err
}

func (p *plain) rename(from, to string) api.Errno {
	own := api.OK
	if !p.has(from) {
		own = api.ErrNone
	} else if badName(to) {
		own = api.ErrName
	}
	err, ok := p.end(own)
	if ok && from != to {
		p.sure[to], p.tail[to] = p.sure[from], p.tail[from]
		delete(p.sure, from)
		delete(p.tail, from)
	}
	return err
}

func (p *plain) remove(name string) api.Errno {
	own := api.OK
	if !p.has(name) {
		own = api.ErrNone
	}
	err, ok := p.end(own)
	if ok {
		delete(p.sure, name)
		delete(p.tail, name)
	}
	return err
}

func (p *plain) read(name string) (string, api.Errno) {
	if p.off {
		return "", api.ErrOff
	}
	if !p.has(name) {
		return "", api.ErrNone
	}
	return p.sure[name] + p.tail[name], api.OK
}

func (p *plain) crash(keep int) {
	for name, tail := range p.tail {
		kept := ""
		for i := 0; i < len(tail) && i < keep; i++ {
			kept += tail[i : i+1]
		}
		p.sure[name] += kept
		p.tail[name] = ""
	}
	p.off, p.fuse = false, -1
}

func (p *plain) copy() *plain {
	other := newPlain(p.room)
	other.off, other.fuse = p.off, p.fuse
	for name := range p.sure {
		other.sure[name], other.tail[name] = p.sure[name], p.tail[name]
	}
	return other
}

// both is a disk, and what it ought to be.
type both struct {
	d *disk.Disk
	p *plain
}

// Of these the steps of a script take what they are about.
var (
	scriptNames = []string{"a", "b", "c", "a-1", "a.2", "z", "m0", "", "A", "a_b", strings.Repeat("n", 64), strings.Repeat("n", 65)}
	scriptTexts = []string{"", "1", "23", "456", "7890123", "abcdefghijklmnopqrst"}
	scriptFuses = []int{-1, 0, 1, 2, 3, 5, 8, math.MinInt, math.MaxInt}
	scriptKeeps = []int{-1, 0, 1, 2, 3, 5, 1000, math.MinInt, math.MaxInt}
)

// script is bytes that tell steps; behind its end it tells noughts.
type script struct{ left []byte }

func (s *script) next() int {
	if len(s.left) == 0 {
		return 0
	}
	n := s.left[0]
	s.left = s.left[1:]
	return int(n)
}

func (s *script) name() string { return scriptNames[s.next()%len(scriptNames)] }

// answer is what a step was, and how it ended.
type answer struct {
	act string
	err api.Errno
}

// step does the next step to a disk and to what it ought to be, and fails where their answers differ.
func (s *script) step(t *testing.T, b both) answer {
	t.Helper()
	what, got, want := "", api.OK, api.OK
	switch s.next() % 12 {
	case 0, 1, 2:
		name, text := s.name(), scriptTexts[s.next()%len(scriptTexts)]
		what, got, want = "Append", b.d.Append(name, text), b.p.append(name, text)
	case 3, 4:
		name := s.name()
		what, got, want = "Sync", b.d.Sync(name), b.p.sync(name)
	case 5, 6:
		from, to := s.name(), s.name()
		what, got, want = "Rename", b.d.Rename(from, to), b.p.rename(from, to)
	case 7:
		name := s.name()
		what, got, want = "Remove", b.d.Remove(name), b.p.remove(name)
	case 8:
		name := s.name()
		text, err := b.d.Read(name)
		ought, oughtErr := b.p.read(name)
		what, got, want = "Read", err, oughtErr
		if text != ought {
			t.Errorf("Read(%.20q) = %q; want %q", name, text, ought)
		}
	case 9:
		prefix := scriptNames[s.next()%len(scriptNames)]
		lists(t, b.d, prefix, b.p.list(prefix)...)
		what = "List"
	case 10:
		n := scriptFuses[s.next()%len(scriptFuses)]
		b.d.Fuse(n)
		b.p.fuse = max(n, -1)
		what = "Fuse"
	case 11:
		n := scriptKeeps[s.next()%len(scriptKeeps)]
		b.d.Crash(n)
		b.p.crash(n)
		what = "Crash"
	}
	answers(t, what, got, want)
	return answer{what, got}
}

// run does a script to a disk and copies of it, each with what it ought to be, and holds all of them against that behind each step.
func run(t *testing.T, room int, s *script) map[answer]int {
	t.Helper()
	count := map[answer]int{}
	all := []both{{made(t, room), newPlain(room)}}
	for len(s.left) > 0 && !t.Failed() {
		n := s.next()
		b := all[n%len(all)]
		if n >= 250 {
			// The copy stands in place of the fourth one, if there are four.
			all = append(all[:min(len(all), 3)], both{b.d.Copy(), b.p.copy()})
			continue
		}
		count[s.step(t, b)]++
		for _, b := range all {
			is(t, "a disk of a script", b.d, b.p.told())
		}
	}
	return count
}

// noise is bytes that hang on the seed alone.
func noise(seed uint64, n int) []byte {
	r := rand.New(rand.NewPCG(seed, 6))
	out := make([]byte, n)
	for i := range out {
		out[i] = byte(r.Uint32())
	}
	return out
}

func TestScripts(t *testing.T) {
	count := map[answer]int{}
	for seed := range uint64(60) {
		for a, n := range run(t, []int{0, 3, 25, 60, 1000}[seed%5], &script{noise(seed, 1200)}) {
			count[a] += n
		}
	}
	for _, a := range []answer{
		{"Append", api.OK}, {"Append", api.ErrOff}, {"Append", api.ErrName}, {"Append", api.ErrFull},
		{"Sync", api.OK}, {"Sync", api.ErrOff}, {"Sync", api.ErrNone},
		{"Rename", api.OK}, {"Rename", api.ErrOff}, {"Rename", api.ErrNone}, {"Rename", api.ErrName},
		{"Remove", api.OK}, {"Remove", api.ErrOff}, {"Remove", api.ErrNone},
		{"Read", api.OK}, {"Read", api.ErrOff}, {"Read", api.ErrNone},
		{"List", api.OK}, {"Fuse", api.OK}, {"Crash", api.OK},
	} {
		if count[a] < 30 {
			t.Errorf("the scripts have %s with error %d %d times only", a.act, a.err, count[a])
		}
	}
}

// Wherever power goes, all acts ahead are done, and none from there on.
func TestPowerGoesAtEachPlace(t *testing.T) {
	acts := []func(d *disk.Disk) api.Errno{
		func(d *disk.Disk) api.Errno { return d.Append("log-new", "base") },
		func(d *disk.Disk) api.Errno { return d.Sync("log-new") },
		func(d *disk.Disk) api.Errno { return d.Rename("log-new", "log-2") },
		func(d *disk.Disk) api.Errno { return d.Remove("log-1") },
		func(d *disk.Disk) api.Errno { return d.Append("log-2", "rec") },
		func(d *disk.Disk) api.Errno { return d.Sync("log-2") },
	}
	want := []string{
		"on 3 log-1=old|",
		"on 4 log-1=old| log-new=b|",
		"on 7 log-1=old| log-new=base|",
		"on 7 log-1=old| log-2=base|",
		"on 4 log-2=base|",
		"on 5 log-2=baser|",
		"on 7 log-2=baserec|",
	}
	for n := range want {
		d := made(t, 100)
		done(t, "log-1", d.Append("log-1", "old"), d.Sync("log-1"))
		d.Fuse(n)
		for i, act := range acts {
			ought := api.OK
			if i >= n {
				ought = api.ErrOff
			}
			answers(t, fmt.Sprintf("act %d at a fuse of %d", i, n), act(d), ought)
		}
		d.Crash(1)
		is(t, fmt.Sprintf("a fuse of %d", n), d, want[n])
	}
}

func FuzzScripts(f *testing.F) {
	for seed := range uint64(4) {
		f.Add(10*int(seed), noise(seed, 300))
	}
	f.Fuzz(func(t *testing.T, room int, data []byte) {
		run(t, max(room, 0)%100, &script{data[:min(len(data), 2000)]})
	})
}
