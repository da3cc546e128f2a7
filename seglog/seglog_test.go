package seglog_test

import (
	"fmt"
	"math"
	"math/rand/v2"
	"regexp"
	"slices"
	"strconv"
	"strings"
	"testing"

	"almonry/api"
	"almonry/disk"
	"almonry/frame"
	"almonry/seglog"
)

// The records of some texts, byte by byte.
const (
	noneRecord = "\x00\x51\x53\x7d\x52"
	aRecord    = "\x01a\xc4\xff\x6e\x71"
	bRecord    = "\x01b\x30\x0c\x3e\x62"
)

// rec is the records of these texts, one behind the other.
func rec(texts ...string) string {
	var out strings.Builder
	for _, s := range texts {
		r, err := frame.Put(s)
		if err != api.OK {
			panic("a text that has no record")
		}
		out.WriteString(r)
	}
	return out.String()
}

// emptyDisk is a disk of the greatest room.
func emptyDisk() *disk.Disk { return diskOf(api.MaxDisk) }

// diskOf is a disk of so much room, with files that are sure: names and bytes, by turns.
func diskOf(room int, files ...string) *disk.Disk {
	d, err := disk.New(room)
	if err != api.OK {
		panic("a room that no disk has")
	}
	for i := 0; i < len(files); i += 2 {
		if d.Append(files[i], files[i+1]) != api.OK || d.Sync(files[i]) != api.OK {
			panic("a file that can not be made: " + files[i])
		}
	}
	return d
}

// filled is a disk with these files that has room for so many bytes more.
func filled(more int, files ...string) *disk.Disk {
	return diskOf(diskOf(api.MaxDisk, files...).Used()+more, files...)
}

// onDisk is each file of a disk, off or on: its name, what is sure, and the tail.
func onDisk(d *disk.Disk) []string {
	whole, sure := d.Copy(), d.Copy()
	whole.Crash(math.MaxInt)
	sure.Crash(0)
	var files []string
	for _, name := range whole.List("") {
		all, _ := whole.Read(name)
		ahead, _ := sure.Read(name)
		files = append(files, name, ahead, strings.TrimPrefix(all, ahead))
	}
	return files
}

// stands fails unless these files are on the disk, all of them sure: names and bytes, by turns.
func stands(t *testing.T, what string, d *disk.Disk, files ...string) {
	t.Helper()
	var want []string
	for i := 0; i < len(files); i += 2 {
		want = append(want, files[i], files[i+1], "")
	}
	alike(t, what+": the disk", onDisk(d), want)
}

// alike fails unless two lists are the same.
func alike(t *testing.T, what string, got, want []string) {
	t.Helper()
	if !slices.Equal(got, want) {
		t.Errorf("%s: %d, %.400q; want %d, %.400q", what, len(got), got, len(want), want)
	}
}

// answers fails unless the error is that one.
func answers(t *testing.T, what string, got, want api.Errno) {
	t.Helper()
	if got != want {
		t.Errorf("%s: error %d; want %d", what, got, want)
	}
}

// opens opens a log that there must be.
func opens(t *testing.T, d *disk.Disk, name string) *seglog.Log {
	t.Helper()
	l, err := seglog.Open(d, name)
	if l == nil || err != api.OK {
		t.Fatalf("Open(%s) answers error %d, and a log: %t", name, err, l != nil)
	}
	return l
}

// opensNot fails unless Open answers this error alone.
func opensNot(t *testing.T, d *disk.Disk, name string, want api.Errno) {
	t.Helper()
	if l, err := seglog.Open(d, name); l != nil || err != want {
		t.Errorf("Open(%.80q) answers error %d, and a log: %t; want error %d", name, err, l != nil, want)
	}
}

// has fails unless the log has this base and these records.
func has(t *testing.T, what string, l *seglog.Log, base string, records ...string) {
	t.Helper()
	if got := l.Base(); got != base {
		t.Errorf("%s: the base is %.80q; want %.80q", what, got, base)
	}
	alike(t, what+": the records", l.Records(), records)
	if got := l.Len(); got != len(records) {
		t.Errorf("%s: Len is %d; want %d", what, got, len(records))
	}
}

// ends fails unless the log is at its end, which changes nothing that it has, or that is on the disk.
func ends(t *testing.T, what string, l *seglog.Log, d *disk.Disk) {
	t.Helper()
	base, records, files := l.Base(), l.Records(), onDisk(d)
	for _, s := range []string{"", "a", long} {
		answers(t, what+": Append behind the end", l.Append(s), api.ErrState)
		answers(t, what+": Snapshot behind the end", l.Snapshot(s), api.ErrState)
	}
	has(t, what+": behind the end", l, base, records...)
	alike(t, what+": behind the end: the disk", onDisk(d), files)
}

// long is a text that no record has.
var long = strings.Repeat("x", api.MaxText+1)

// Promise 8.1: what Open asks.

func TestOpenOfNoDisk(t *testing.T) {
	for _, name := range []string{"log", "", "Log"} {
		opensNot(t, nil, name, api.ErrNil)
	}
}

func TestOpenOfADiskThatIsOff(t *testing.T) {
	d := diskOf(100, "log-00000001", noneRecord)
	d.Fuse(0)
	answers(t, "the act at which power goes", d.Append("x", ""), api.ErrOff)
	for _, name := range []string{"log", "", "Log"} {
		opensNot(t, d, name, api.ErrOff)
	}
	stands(t, "Open of a disk that is off", d, "log-00000001", noneRecord)
}

func TestOpenRefusesOtherNames(t *testing.T) {
	names := []string{"", "Log", "loG", "log1", "1", "log-", "-", "log.", "l og", " ", "log\x00", "\x00", "logé", "é", "\xff", "`", "{", "a`", "a{", "A", "Z", "log-new", strings.Repeat("a", 33), strings.Repeat("z", 1000)}
	for _, name := range names {
		d := diskOf(100, "log-00000001", "x")
		opensNot(t, d, name, api.ErrName)
		stands(t, "Open of a wrong name", d, "log-00000001", "x")
	}
	for b := range 256 {
		if b < 'a' || b > 'z' {
			opensNot(t, emptyDisk(), "lo"+string([]byte{byte(b)})+"g", api.ErrName)
		}
	}
}

func TestOpenTakesEachOtherName(t *testing.T) {
	names := []string{"a", "z", "log", "new", "abcdefghijklmnopqrstuvwxyz", strings.Repeat("a", 31), strings.Repeat("z", 32)}
	for b := 'a'; b <= 'z'; b++ {
		names = append(names, string(b))
	}
	for _, name := range names {
		d := emptyDisk()
		has(t, name, opens(t, d, name), "")
		stands(t, name, d, name+"-00000001", noneRecord)
	}
}

// Promise 8.1: the file that counts.

func TestOpenMakesALogThatIsNotThere(t *testing.T) {
	d := emptyDisk()
	has(t, "a new log", opens(t, d, "log"), "")
	stands(t, "a new log", d, "log-00000001", "\x00\x51\x53\x7d\x52")
	has(t, "the same again", opens(t, d, "log"), "")
	stands(t, "the same again", d, "log-00000001", "\x00\x51\x53\x7d\x52")
}

func TestOpenReadsBaseAndRecords(t *testing.T) {
	for _, texts := range [][]string{{""}, {"a"}, {"a", "b"}, {"", ""}, {"", "a", "a", "b", ""}, {strings.Repeat("b", api.MaxText), strings.Repeat("r", api.MaxText)}} {
		for _, file := range []string{"log-00000001", "log-00000009", "log-00000010", "log-12345678", "log-99999999"} {
			d := diskOf(api.MaxDisk, file, rec(texts...))
			has(t, file, opens(t, d, "log"), texts[0], texts[1:]...)
			stands(t, file, d, file, rec(texts...))
		}
	}
}

// More records than a list of layer 1 has.
func TestOpenReadsManyRecords(t *testing.T) {
	texts := make([]string, 3*api.MaxList)
	for i := range texts {
		texts[i] = strconv.Itoa(i)
	}
	for _, tail := range []string{"", "x"} {
		d := diskOf(api.MaxDisk, "log-00000004", rec(texts...)+tail)
		has(t, "many", opens(t, d, "log"), texts[0], texts[1:]...)
	}
}

// Where nothing is to be made or removed, no act is asked for.
func TestOpenOfAWholeLogDoesNoAct(t *testing.T) {
	d := diskOf(100, "log-00000003", rec("base", "a"))
	d.Fuse(0)
	has(t, "a whole log", opens(t, d, "log"), "base", "a")
	stands(t, "a whole log", d, "log-00000003", rec("base", "a"))
}

// What is not sure is read as what is sure, and stays as it is.
func TestOpenReadsATailOfTheDisk(t *testing.T) {
	d := diskOf(100, "log-00000003", rec("base", "a"))
	answers(t, "an act beside the log", d.Append("log-00000003", bRecord), api.OK)
	has(t, "a log with a tail", opens(t, d, "log"), "base", "a", "b")
	alike(t, "a log with a tail", onDisk(d), []string{"log-00000003", rec("base", "a"), bRecord})
}

func TestTheGreatestGenerationCounts(t *testing.T) {
	for _, c := range []struct {
		files      []string
		file, base string
	}{
		{[]string{"log-00000001", aRecord, "log-00000002", bRecord}, "log-00000002", "b"},
		{[]string{"log-00000009", aRecord, "log-00000010", bRecord}, "log-00000010", "b"},
		{[]string{"log-00000001", aRecord, "log-00000007", bRecord, "log-00000003", aRecord}, "log-00000007", "b"},
		{[]string{"log-09999999", aRecord, "log-10000000", bRecord}, "log-10000000", "b"},
		{[]string{"log-00000001", aRecord, "log-99999999", bRecord}, "log-99999999", "b"},
		{[]string{"log-00000001", aRecord, "log-00000002", ""}, "log-00000001", "a"},
		{[]string{"log-00000001", aRecord, "log-00000002", bRecord[:5]}, "log-00000001", "a"},
		{[]string{"log-00000001", aRecord, "log-00000002", "x" + bRecord, "log-00000003", "\x80"}, "log-00000001", "a"},
		{[]string{"log-00000001", aRecord, "log-00000002", bRecord, "log-00000003", bRecord[:3]}, "log-00000002", "b"},
		{[]string{"log-00000001", aRecord, "log-99999999", "\x02b\x30\x0c\x3e\x62"}, "log-00000001", "a"},
	} {
		d := diskOf(1000, c.files...)
		record := aRecord
		if c.base == "b" {
			record = bRecord
		}
		has(t, c.file, opens(t, d, "log"), c.base)
		stands(t, c.file, d, c.file, record)
	}
}

func TestNoFileCounts(t *testing.T) {
	for _, files := range [][]string{
		{"log-00000001", ""},
		{"log-00000001", "x"},
		{"log-00000007", aRecord[:5]},
		{"log-00000001", "\x80\x00" + aRecord, "log-00000002", noneRecord[:4], "log-99999999", "x" + aRecord},
		{"log-new", aRecord},
		{"log-00000001", "", "log-new", rec("a", "b")},
	} {
		d := diskOf(1000, files...)
		has(t, files[0], opens(t, d, "log"), "")
		stands(t, files[0], d, "log-00000001", noneRecord)
	}
}

// Names that are of another form are nobody's, and stay.
func TestOpenLeavesOtherFiles(t *testing.T) {
	for _, name := range []string{
		"log", "log-", "lo-00000002", "logs-00000002", "log.00000002", "log00000002", "xlog-00000002", "og-00000002",
		"log-0000002", "log-000000002", "log-100000002", "log-00000000", "log-0000000a", "log-a0000002", "log--0000002", "log-0000000-", "log-0000.002", "log-.0000002", "log--00000002", "log-000000.2",
		"log-ne", "log-neww", "log-new-", "log-new.1", "log.new", "lognew", "new", "log--new", "-new", "-00000002", "new-00000002", "log-new-00000002", "l-og-00000002",
	} {
		for _, body := range []string{"", "x", bRecord} {
			d := diskOf(1000, name, body, "log-00000001", aRecord)
			has(t, name, opens(t, d, "log"), "a")
			alike(t, name, onDisk(d), sorted(name, body, "log-00000001", aRecord))
			d = diskOf(1000, name, body)
			has(t, name, opens(t, d, "log"), "")
			alike(t, name, onDisk(d), sorted(name, body, "log-00000001", noneRecord))
		}
	}
}

// sorted is what onDisk tells of two files that are sure.
func sorted(a, aBody, b, bBody string) []string {
	if b < a {
		a, aBody, b, bBody = b, bBody, a, aBody
	}
	return []string{a, aBody, "", b, bBody, ""}
}

// Logs of two names, of which one begins with the other, do not know each other.
func TestLogsOfOtherNames(t *testing.T) {
	d := emptyDisk()
	l, m := opens(t, d, "log"), opens(t, d, "logs")
	answers(t, "log", l.Append("a"), api.OK)
	answers(t, "logs", m.Snapshot("b"), api.OK)
	has(t, "log", opens(t, d, "log"), "", "a")
	has(t, "logs", opens(t, d, "logs"), "b")
	stands(t, "both", d, "log-00000001", noneRecord+aRecord, "logs-00000002", bRecord)
}

// Promise 8.1: others are removed by rising names, and the new file last of them; power that goes leaves those behind.

func TestOthersAreRemovedByRisingNames(t *testing.T) {
	files := []string{"log-00000001", aRecord, "log-00000002", "x", "log-00000003", bRecord, "log-00000004", "y", "log-new", aRecord}
	removed := []string{"log-00000001", "log-00000002", "log-00000004", "log-new"}
	for n := range 6 {
		d := diskOf(1000, files...)
		d.Fuse(n)
		want := slices.Clone(files)
		for _, name := range removed[:min(n, 4)] {
			i := slices.Index(want, name)
			want = slices.Delete(want, i, i+2)
		}
		if n < 4 {
			opensNot(t, d, "log", api.ErrOff)
		} else {
			has(t, "all were removed", opens(t, d, "log"), "b")
		}
		stands(t, fmt.Sprintf("fuse %d", n), d, want...)
	}
}

// Promise 8.1: bytes behind the whole records.

func TestBytesBehindTheRecordsGo(t *testing.T) {
	for _, texts := range [][]string{{""}, {"base"}, {"base", "a"}, {"", "a", "", "b"}} {
		for _, tail := range []string{"x", "\x00", "\x80", "\x80\x00\x00\x00\x00\x00", aRecord[:1], aRecord[:5], "\x01b\xc4\xff\x6e\x71", noneRecord[:4] + "x", "x" + aRecord, "\x02" + aRecord + bRecord, "\x81\x80\x04" + long} {
			d := diskOf(api.MaxDisk, "log-00000009", rec(texts...)+tail)
			l := opens(t, d, "log")
			has(t, "a torn log", l, texts[0], texts[1:]...)
			stands(t, "a torn log", d, "log-00000010", rec(texts...))
			answers(t, "Append to a torn log", l.Append("c"), api.OK)
			stands(t, "behind an Append", d, "log-00000010", rec(texts...)+rec("c"))
			has(t, "opened again", opens(t, d, "log"), texts[0], append(slices.Clone(texts[1:]), "c")...)
		}
	}
}

func TestATornLogIsMadeAnewByActs(t *testing.T) {
	old := rec("base", "a") + "x"
	sure := rec("base", "a")
	want := [][]string{
		{"log-00000009", old, ""},
		{"log-00000009", old, "", "log-new", "", sure},
		{"log-00000009", old, "", "log-new", sure, ""},
		{"log-00000009", old, "", "log-00000010", sure, ""},
		{"log-00000010", sure, ""},
		{"log-00000010", sure, ""},
	}
	for n, files := range want {
		d := diskOf(1000, "log-00000009", old)
		d.Fuse(n)
		if n < 4 {
			opensNot(t, d, "log", api.ErrOff)
		} else {
			has(t, "a torn log", opens(t, d, "log"), "base", "a")
		}
		alike(t, fmt.Sprintf("fuse %d", n), onDisk(d), byName(files))
		d.Crash(0)
		has(t, fmt.Sprintf("fuse %d, behind a crash", n), opens(t, d, "log"), "base", "a")
	}
}

// byName is a list of names, what is sure, and tails, by rising names.
func byName(files []string) []string {
	parts := slices.Collect(slices.Chunk(files, 3))
	slices.SortFunc(parts, func(a, b []string) int { return strings.Compare(a[0], b[0]) })
	return slices.Concat(parts...)
}

func TestANewLogIsMadeByActs(t *testing.T) {
	for n, files := range [][]string{
		{},
		{"log-new", "", noneRecord},
		{"log-new", noneRecord, ""},
		{"log-00000001", noneRecord, ""},
		{"log-00000001", noneRecord, ""},
	} {
		d := diskOf(1000)
		d.Fuse(n)
		if n < 3 {
			opensNot(t, d, "log", api.ErrOff)
		} else {
			has(t, "a new log", opens(t, d, "log"), "")
		}
		alike(t, fmt.Sprintf("fuse %d", n), onDisk(d), files)
	}
}

// Promise 8.1: the generation behind 99999999 is no file of the log.

func TestTheLastGeneration(t *testing.T) {
	d := diskOf(1000, "log-99999998", rec("base", "a"))
	l := opens(t, d, "log")
	answers(t, "Snapshot", l.Snapshot("b"), api.OK)
	stands(t, "the last generation", d, "log-99999999", bRecord)
	answers(t, "Snapshot behind it", l.Snapshot("a"), api.OK)
	stands(t, "the generation behind it", d, "log-00000000", aRecord)
	answers(t, "Append behind it", l.Append("b"), api.OK)
	has(t, "the generation behind it", l, "a", "b")
	stands(t, "the generation behind it", d, "log-00000000", aRecord+bRecord)
	answers(t, "one Snapshot more", l.Snapshot("b"), api.OK)
	answers(t, "and an Append", l.Append("a"), api.OK)
	stands(t, "two behind the last", d, "log-00000001", bRecord+aRecord)
	has(t, "two behind the last", opens(t, d, "log"), "b", "a")
}

func TestWhatStandsBehindTheLastGenerationIsNotFound(t *testing.T) {
	d := diskOf(1000, "log-99999999", aRecord+"x")
	l := opens(t, d, "log")
	has(t, "a torn log of the last generation", l, "a")
	stands(t, "a torn log of the last generation", d, "log-00000000", aRecord)
	has(t, "opened again", opens(t, d, "log"), "")
	stands(t, "opened again", d, "log-00000000", aRecord, "log-00000001", noneRecord)
}

// Promise 8.1: the disk's first error.

func TestOpenOfAFullDisk(t *testing.T) {
	d := filled(4, "x", "12345")
	opensNot(t, d, "log", api.ErrFull)
	stands(t, "no room for a new log", d, "x", "12345")
	d = filled(4, "log-00000001", "12345", "log-new", "x")
	has(t, "room by what was removed", opens(t, d, "log"), "")
	stands(t, "room by what was removed", d, "log-00000001", noneRecord)

	torn := rec("base", "a") + "x"
	d = filled(len(torn)-2, "log-00000002", torn)
	opensNot(t, d, "log", api.ErrFull)
	stands(t, "no room beside a torn log", d, "log-00000002", torn)
	d = filled(len(torn)-1, "log-00000002", torn)
	has(t, "room beside a torn log", opens(t, d, "log"), "base", "a")
	stands(t, "room beside a torn log", d, "log-00000003", rec("base", "a"))

	d = filled(0, "log-00000003", rec("base", "a"))
	has(t, "a whole log on a full disk", opens(t, d, "log"), "base", "a")
}

func TestOpenOfADiskWithTooManyFiles(t *testing.T) {
	many := func(n int) *disk.Disk {
		d := emptyDisk()
		for i := range n {
			answers(t, "a file beside the log", d.Append(fmt.Sprintf("f%d", i), ""), api.OK)
		}
		return d
	}
	opensNot(t, many(api.MaxFiles), "log", api.ErrFull)
	d := many(api.MaxFiles - 1)
	l := opens(t, d, "log")
	answers(t, "Append as the last file", l.Append("a"), api.OK)
	answers(t, "Snapshot without room for a file", l.Snapshot("b"), api.ErrFull)
	has(t, "a log without room for a file", l, "", "a")
	answers(t, "Append behind that", l.Append("b"), api.OK)
	has(t, "a log without room for a file", opens(t, d, "log"), "", "a", "b")
}

// Promise 8.2: Append.

func TestAppend(t *testing.T) {
	d := emptyDisk()
	l := opens(t, d, "log")
	file, texts := noneRecord, []string{}
	for _, s := range []string{"a", "b", "", "a", "\x00\xff", strings.Repeat("m", api.MaxText)} {
		answers(t, "Append", l.Append(s), api.OK)
		file, texts = file+rec(s), append(texts, s)
		has(t, "behind an Append", l, "", texts...)
		stands(t, "behind an Append", d, "log-00000001", file)
		has(t, "opened again", opens(t, d.Copy(), "log"), "", texts...)
	}
	if file[:17] != noneRecord+aRecord+bRecord {
		t.Errorf("the file begins with %q", file[:17])
	}
}

func TestAppendRefusesMoreThanMaxText(t *testing.T) {
	d := filled(0, "log-00000001", rec("base", "a"))
	l := opens(t, d, "log")
	d.Fuse(0)
	answers(t, "Append of too many bytes", l.Append(long), api.ErrLong)
	answers(t, "Snapshot of too many bytes", l.Snapshot(long), api.ErrLong)
	has(t, "behind ErrLong", l, "base", "a")
	d.Fuse(-1)
	stands(t, "behind ErrLong", d, "log-00000001", rec("base", "a"))
	answers(t, "Append behind ErrLong", l.Append(""), api.ErrFull)
}

func TestAppendToAFullDisk(t *testing.T) {
	d := filled(len(aRecord)+4, "log-00000001", noneRecord)
	l := opens(t, d, "log")
	answers(t, "Append of more than fits", l.Append("12345678"), api.ErrFull)
	has(t, "behind ErrFull", l, "")
	stands(t, "behind ErrFull", d, "log-00000001", noneRecord)
	answers(t, "Append of what fits", l.Append("a"), api.OK)
	answers(t, "Append at the end of the room", l.Append(""), api.ErrFull)
	has(t, "behind ErrFull", l, "", "a")
	has(t, "opened again", opens(t, d, "log"), "", "a")
}

func TestAppendWherePowerGoes(t *testing.T) {
	for n, files := range [][]string{
		{"log-00000001", noneRecord + aRecord, ""},
		{"log-00000001", noneRecord + aRecord, bRecord},
	} {
		d := emptyDisk()
		l := opens(t, d, "log")
		answers(t, "Append", l.Append("a"), api.OK)
		d.Fuse(n)
		answers(t, "Append where power goes", l.Append("b"), api.ErrOff)
		has(t, "power went", l, "", "a")
		alike(t, "power went", onDisk(d), files)
		ends(t, "power went", l, d)
		d.Crash(0)
		ends(t, "power is there again", l, d)
		has(t, "opened again", opens(t, d, "log"), "", "a")
	}
	d := emptyDisk()
	l := opens(t, d, "log")
	d.Fuse(2)
	answers(t, "Append by the last two acts", l.Append("a"), api.OK)
	has(t, "Append by the last two acts", l, "", "a")
}

func TestAppendToADiskThatIsOff(t *testing.T) {
	d := emptyDisk()
	l := opens(t, d, "log")
	d.Fuse(0)
	answers(t, "an act beside the log", d.Append("x", ""), api.ErrOff)
	answers(t, "Append", l.Append("a"), api.ErrOff)
	ends(t, "the disk was off", l, d)
}

// Records that were handed out do not change by what is appended.
func TestRecordsThatWereHandedOutStay(t *testing.T) {
	l := opens(t, emptyDisk(), "log")
	for range 40 {
		ahead := l.Records()
		first := slices.Clone(ahead)
		answers(t, "Append", l.Append(strconv.Itoa(len(ahead))), api.OK)
		_ = append(ahead, "x")
		alike(t, "handed out", ahead, first)
		if got := l.Records(); got[len(got)-1] != strconv.Itoa(len(ahead)) {
			t.Errorf("the last record is %q", got[len(got)-1])
		}
	}
}

// Promise 8.2: Snapshot.

func TestSnapshot(t *testing.T) {
	d := emptyDisk()
	l := opens(t, d, "log")
	answers(t, "Append", l.Append("a"), api.OK)
	for i, s := range []string{"base", "", "b", strings.Repeat("m", api.MaxText), "a"} {
		answers(t, "Snapshot", l.Snapshot(s), api.OK)
		has(t, "behind a Snapshot", l, s)
		file := fmt.Sprintf("log-%08d", i+2)
		stands(t, "behind a Snapshot", d, file, rec(s))
		answers(t, "Append", l.Append("b"), api.OK)
		has(t, "an Append behind it", l, s, "b")
		stands(t, "an Append behind it", d, file, rec(s)+bRecord)
		has(t, "opened again", opens(t, d.Copy(), "log"), s, "b")
	}
}

func TestSnapshotOfAFullDisk(t *testing.T) {
	for _, beside := range [][]string{{}, {""}, {"x"}, {"12", "345"}} {
		d := filled(5, "log-00000001", rec("base", "a"))
		l := opens(t, d, "log")
		for _, s := range beside {
			answers(t, "an act beside the log", d.Append("log-new", s), api.OK)
		}
		answers(t, "Snapshot of more than fits", l.Snapshot("a"), api.ErrFull)
		has(t, "behind ErrFull", l, "base", "a")
		stands(t, "behind ErrFull", d, "log-00000001", rec("base", "a"))
		answers(t, "Snapshot of what fits", l.Snapshot(""), api.OK)
		has(t, "a Snapshot of what fits", l, "")
		stands(t, "a Snapshot of what fits", d, "log-00000002", noneRecord)
		answers(t, "Append behind it", l.Append("a"), api.OK)
		has(t, "opened again", opens(t, d, "log"), "", "a")
	}
}

func TestSnapshotWherePowerGoes(t *testing.T) {
	old := rec("base", "a")
	for n, c := range []struct {
		files  []string
		opened string
	}{
		{[]string{"log-00000001", old, "", "log-new", "", "x"}, "base"},
		{[]string{"log-00000001", old, ""}, "base"},
		{[]string{"log-00000001", old, "", "log-new", "", bRecord}, "base"},
		{[]string{"log-00000001", old, "", "log-new", bRecord, ""}, "base"},
		{[]string{"log-00000001", old, "", "log-00000002", bRecord, ""}, "b"},
	} {
		d := diskOf(1000, "log-00000001", old)
		l := opens(t, d, "log")
		answers(t, "an act beside the log", d.Append("log-new", "x"), api.OK)
		d.Fuse(n)
		answers(t, "Snapshot where power goes", l.Snapshot("b"), api.ErrOff)
		alike(t, fmt.Sprintf("fuse %d", n), onDisk(d), c.files)
		records := []string{"a"}
		if c.opened == "b" {
			records = nil
		}
		has(t, fmt.Sprintf("fuse %d", n), l, c.opened, records...)
		ends(t, fmt.Sprintf("fuse %d", n), l, d)
		d.Crash(0)
		ends(t, fmt.Sprintf("fuse %d, power again", n), l, d)
		has(t, fmt.Sprintf("fuse %d, opened again", n), opens(t, d, "log"), c.opened, records...)
	}
	d := diskOf(1000, "log-00000001", old)
	l := opens(t, d, "log")
	d.Fuse(4)
	answers(t, "Snapshot by the last four acts", l.Snapshot("b"), api.OK)
	stands(t, "Snapshot by the last four acts", d, "log-00000002", bRecord)
}

// A file of the generation ahead that somebody removed is none, and no error.
func TestSnapshotWhereTheFileIsGone(t *testing.T) {
	d := emptyDisk()
	l := opens(t, d, "log")
	answers(t, "an act beside the log", d.Remove("log-00000001"), api.OK)
	answers(t, "Snapshot", l.Snapshot("b"), api.OK)
	stands(t, "Snapshot", d, "log-00000002", bRecord)
	answers(t, "Append", l.Append("a"), api.OK)
	has(t, "Snapshot", l, "b", "a")
}

// Promise 8.2: on nil.

func TestNoLog(t *testing.T) {
	var l *seglog.Log
	for _, s := range []string{"", "a", long} {
		answers(t, "Append to no log", l.Append(s), api.ErrNil)
		answers(t, "Snapshot of no log", l.Snapshot(s), api.ErrNil)
	}
	has(t, "no log", l, "")
}

// Promise 8.3: behind a crash.

// A log is filled and snapshot, till power goes; wherever that is, and whatever is kept of the tails, Open tells what was answered, and at most one thing more. Power may go in the middle of that Open too.
func TestCrashesAnywhere(t *testing.T) {
	for fuse := range 40 {
		for _, keep := range []int{-1, 0, 1, 4, 5, 6, 7, 8, 100} {
			for again := -1; again < 8; again++ {
				crash(t, fuse, keep, again)
			}
		}
	}
}

// crash does steps till power goes, and opens the log behind it, at first with a fuse.
func crash(t *testing.T, fuse, keep, again int) {
	what := fmt.Sprintf("fuse %d, keep %d, again %d", fuse, keep, again)
	d := emptyDisk()
	l := opens(t, d, "log")
	d.Fuse(fuse)
	sure := []string{""}
	perhaps := sure
	for i := 0; !d.Off(); i++ {
		s := strings.Repeat(strconv.Itoa(i), 1+i%5)
		do := l.Append
		perhaps = append(slices.Clone(sure), s)
		if i%3 == 2 {
			do = l.Snapshot
			perhaps = []string{s}
		}
		if do(s) == api.OK {
			sure = perhaps
		}
	}
	d.Crash(keep)
	if again >= 0 {
		d.Fuse(again)
		if _, err := seglog.Open(d, "log"); err != api.OK && err != api.ErrOff {
			t.Errorf("%s: Open answers error %d", what, err)
		}
		d.Crash(keep)
	}
	l = opens(t, d, "log")
	if got := append([]string{l.Base()}, l.Records()...); !slices.Equal(got, sure) && !slices.Equal(got, perhaps) {
		t.Errorf("%s: behind the crash there is %q; want %q, or %q", what, got, sure, perhaps)
	}
	answers(t, what+": Append", l.Append("more"), api.OK)
	has(t, what, opens(t, d, "log"), l.Base(), l.Records()...)
}

// Promises 8.1 and 8.2 once more: scripts of all that can be done, held against a plain model.

// model is a log as the promises tell it: lists of acts, that are done on a disk of its own till the first error.
type model struct {
	d       *disk.Disk
	name    string
	gen     int
	base    string
	records []string
	ended   bool
}

// act is one act of a disk; none of a file that is not there, if it is a remove.
type act struct{ kind, file, arg string }

// do does acts, and answers the first error, and at which of them.
func (m *model) do(acts ...act) (api.Errno, int) {
	for i, a := range acts {
		err := api.OK
		switch a.kind {
		case "append":
			err = m.d.Append(a.file, a.arg)
		case "sync":
			err = m.d.Sync(a.file)
		case "rename":
			err = m.d.Rename(a.file, a.arg)
		case "remove":
			if slices.Contains(m.d.List(""), a.file) {
				err = m.d.Remove(a.file)
			}
		}
		if err != api.OK {
			return err, i
		}
	}
	return api.OK, len(acts)
}

// file is the name of a generation's file.
func (m *model) file(gen int) string {
	return fmt.Sprintf("%s-%08d", m.name, gen%100000000)
}

// makeActs are the acts by which the next generation is made, four of them, and the last Remove.
func (m *model) makeActs(body string) []act {
	fresh := m.name + "-new"
	acts := []act{{"remove", fresh, ""}, {"append", fresh, body}, {"sync", fresh, ""}, {"rename", fresh, m.file(m.gen + 1)}}
	if m.gen > 0 {
		acts = append(acts, act{"remove", m.file(m.gen), ""})
	}
	return acts
}

// open does what Open should, and tells its error.
func (m *model) open() api.Errno {
	*m = model{d: m.d, name: m.name}
	if m.d.Off() {
		return api.ErrOff
	}
	form := regexp.MustCompile("^" + m.name + "-([0-9]{8})$")
	var acts []act
	var body string
	names := m.d.List("")
	slices.Sort(names)
	for _, name := range names {
		found := form.FindStringSubmatch(name)
		if found == nil || found[1] == "00000000" {
			continue
		}
		acts = append(acts, act{"remove", name, ""})
		s, _ := m.d.Read(name)
		if _, _, err := frame.Read(s); err == api.OK {
			m.gen, _ = strconv.Atoi(found[1])
			body = s
		}
	}
	acts = slices.DeleteFunc(acts, func(a act) bool { return m.gen > 0 && a.file == m.file(m.gen) })
	acts = append(acts, act{"remove", m.name + "-new", ""})
	texts, whole := frame.All(body)
	switch {
	case m.gen == 0:
		acts = append(acts, m.makeActs(noneRecord)...)
		texts = []string{""}
		m.gen = 1
	case whole < len(body):
		acts = append(acts, m.makeActs(rec(texts...))...)
		m.gen++
	}
	m.base, m.records = texts[0], texts[1:]
	err, _ := m.do(acts...)
	return err
}

// append does what Append should.
func (m *model) append(s string) api.Errno {
	if m.ended {
		return api.ErrState
	}
	err, at := m.do(act{"append", m.file(m.gen), rec(s)}, act{"sync", m.file(m.gen), ""})
	if err == api.OK {
		m.records = append(m.records, s)
	}
	m.ended = err != api.OK && (at == 1 || err == api.ErrOff)
	return err
}

// snapshot does what Snapshot should.
func (m *model) snapshot(s string) api.Errno {
	if m.ended {
		return api.ErrState
	}
	err, at := m.do(m.makeActs(rec(s))...)
	if at > 3 {
		m.gen++
		m.base, m.records = s, nil
	}
	m.ended = err != api.OK && err != api.ErrFull
	return err
}

// beside are files that acts beside the log are done with, some of them its own.
var beside = []string{"log-new", "log-00000000", "log-00000001", "log-00000002", "log-00000003", "log-00000005", "log-00000012", "log-99999998", "log-99999999", "log-000000001", "logs-00000001", "log-", "log"}

// bodies are what is appended beside the log.
var bodies = []string{"", "x", noneRecord, aRecord, bRecord + "y", aRecord + bRecord, "\x00", "\x80\x00", bRecord[:5]}

// script is bytes that say what is done.
type script struct{ data []byte }

// next takes a number below n off the script; 0 behind its end.
func (s *script) next(n int) int {
	if len(s.data) == 0 {
		return 0
	}
	b := s.data[0]
	s.data = s.data[1:]
	return int(b) % n
}

// run does a script's steps on a disk, and the model's on another one.
func run(t *testing.T, room int, s *script) {
	d := diskOf(room)
	m := &model{d: d.Copy(), name: "log"}
	var l *seglog.Log
	for i := 0; len(s.data) > 0; i++ {
		kind, arg, more := s.next(8), s.next(251), s.next(251)
		what := fmt.Sprintf("step %d, kind %d", i, kind)
		text := strings.Repeat("t", arg%40)
		switch kind {
		case 0:
			var err api.Errno
			l, err = seglog.Open(d, "log")
			answers(t, what, err, m.open())
			if (l != nil) != (err == api.OK) {
				t.Errorf("%s: error %d, and a log: %t", what, err, l != nil)
			}
		case 1, 2:
			if l != nil {
				answers(t, what, l.Append(text), m.append(text))
			}
		case 3:
			if l != nil {
				answers(t, what, l.Snapshot(text), m.snapshot(text))
			}
		case 4:
			d.Fuse(arg % 12)
			m.d.Fuse(arg % 12)
		case 5:
			if d.Off() || arg%4 == 0 {
				d.Crash(more % 20)
				m.d.Crash(more % 20)
			}
		case 6:
			file, body := beside[arg%len(beside)], bodies[more%len(bodies)]
			answers(t, what, d.Append(file, body), m.d.Append(file, body))
		case 7:
			file := beside[arg%len(beside)]
			answers(t, what, d.Remove(file), m.d.Remove(file))
		}
		alike(t, what+": the disk", onDisk(d), onDisk(m.d))
		if l != nil {
			has(t, what, l, m.base, m.records...)
		}
		if d.Off() != m.d.Off() {
			t.Errorf("%s: off: %t", what, d.Off())
		}
		if t.Failed() {
			return
		}
	}
}

// noise is bytes by chance, the same for each seed.
func noise(seed uint64, n int) []byte {
	r := rand.New(rand.NewPCG(seed, 8))
	out := make([]byte, n)
	for i := range out {
		out[i] = byte(r.Uint32())
	}
	return out
}

func TestScripts(t *testing.T) {
	for seed := range uint64(400) {
		room := []int{0, 4, 20, 60, 150, 1000}[seed%6]
		run(t, room, &script{noise(seed, 240)})
		if t.Failed() {
			t.Fatalf("seed %d", seed)
		}
	}
}

func FuzzScripts(f *testing.F) {
	for seed := range uint64(4) {
		f.Add(50*int(seed), noise(seed, 200))
	}
	f.Fuzz(func(t *testing.T, room int, data []byte) {
		run(t, max(room, 0)%200, &script{data[:min(len(data), 1000)]})
	})
}
