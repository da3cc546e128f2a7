package blob_test

import (
	"fmt"
	"math"
	"slices"
	"strings"
	"testing"

	"almonry/api"
	"almonry/blob"
	"almonry/disk"
	"almonry/frame"
	"almonry/hexa"
)

// The IDs of some chunks.
const (
	idC    = "2e7d2c03a9507ae265ecf5b5356885a53393a2029d241394997265a1a25aefc6"
	idB    = "3e23e8160039594a33894f6564e1b1348bbd7a0088d42c4acb73eeaed59c009d"
	idA    = "ca978112ca1bbdcafac231b39a23dc4da786eff8147c4e72b9807785afee48bb"
	idNone = "e3b0c44298fc1c149afbf4c8996fb92427ae41e4649b934ca495991b7852b855"
)

// The records of these chunks, and that some of them are gone, byte by byte.
const (
	cameNone = "\x01\x00\xa5\xef\xc3\xe2"
	cameA    = "\x02\x00a\x16\xe1\xa6\xbc"
	cameB    = "\x02\x00b\xe2\x12\xf6\xaf"
	cameC    = "\x02\x00c\xe1\x91\x9d\x5d"
	wentNone = "\x41\x01" + idNone + "\xbe\x3f\x7c\xfd"
	wentA    = "\x41\x01" + idA + "\x6a\x3b\xf9\x3e"
	wentB    = "\x41\x01" + idB + "\x1a\xe7\x38\xf4"
)

// great is a segment's length that is not reached.
const great = 1 << 20

// long is one byte more than a chunk has.
var long = strings.Repeat("x", api.MaxChunk+1)

// rec is the records of these texts, one behind the other.
func rec(texts ...string) string {
	var out strings.Builder
	for _, s := range texts {
		r, err := frame.Put(s)
		if err != api.OK {
			panic("a text that has no record")
		}
		out.WriteString(r)
	}
	return out.String()
}

// diskOf is a disk of so much room, with files that are sure: names and bytes, by turns.
func diskOf(room int, files ...string) *disk.Disk {
	d, err := disk.New(room)
	if err != api.OK {
		panic("a room that no disk has")
	}
	for i := 0; i < len(files); i += 2 {
		lay(d, files[i], files[i+1])
	}
	return d
}

// wide is a disk of the greatest room with these files.
func wide(files ...string) *disk.Disk { return diskOf(api.MaxDisk, files...) }

// filled is a disk with these files that has room for so many bytes more.
func filled(more int, files ...string) *disk.Disk {
	return diskOf(wide(files...).Used()+more, files...)
}

// lay lays bytes behind a file, beside the store, and makes them sure.
func lay(d *disk.Disk, file, body string) {
	if d.Append(file, body) != api.OK || d.Sync(file) != api.OK {
		panic("a file that can not be written: " + file)
	}
}

// remove lets a file go, beside the store.
func remove(d *disk.Disk, file string) {
	if d.Remove(file) != api.OK {
		panic("a file that can not be removed: " + file)
	}
}

// onDisk is each file of a disk, off or on: its name, what is sure, and the tail.
func onDisk(d *disk.Disk) []string {
	whole, sure := d.Copy(), d.Copy()
	whole.Crash(math.MaxInt)
	sure.Crash(0)
	var files []string
	for _, name := range whole.List("") {
		all, _ := whole.Read(name)
		ahead, _ := sure.Read(name)
		files = append(files, name, ahead, strings.TrimPrefix(all, ahead))
	}
	return files
}

// stands fails unless these files are on the disk, all of them sure: names and bytes, by turns.
func stands(t *testing.T, what string, d *disk.Disk, files ...string) {
	t.Helper()
	var want []string
	for i := 0; i < len(files); i += 2 {
		want = append(want, files[i], files[i+1], "")
	}
	alike(t, what+": the disk", onDisk(d), want)
}

// alike fails unless two lists are the same.
func alike(t *testing.T, what string, got, want []string) {
	t.Helper()
	if !slices.Equal(got, want) {
		t.Errorf("%s: %d, %.600q; want %d, %.600q", what, len(got), got, len(want), want)
	}
}

// answers fails unless the error is that one.
func answers(t *testing.T, what string, got, want api.Errno) {
	t.Helper()
	if got != want {
		t.Errorf("%s: error %d; want %d", what, got, want)
	}
}

// opens opens a store that there must be.
func opens(t *testing.T, d *disk.Disk, seg int) *blob.Store {
	t.Helper()
	s, err := blob.Open(d, "blob", seg)
	if s == nil || err != api.OK {
		t.Fatalf("Open(%d) answers error %d, and a store: %t", seg, err, s != nil)
	}
	return s
}

// opensNot fails unless Open answers this error alone.
func opensNot(t *testing.T, d *disk.Disk, name string, seg int, want api.Errno) {
	t.Helper()
	if s, err := blob.Open(d, name, seg); s != nil || err != want {
		t.Errorf("Open(%.80q, %d) answers error %d, and a store: %t; want error %d", name, seg, err, s != nil, want)
	}
}

// has fails unless the store has so many segments, and these chunks alone.
func has(t *testing.T, what string, s *blob.Store, segments int, chunks ...string) {
	t.Helper()
	if got := s.Segments(); got != segments {
		t.Errorf("%s: %d segments; want %d", what, got, segments)
	}
	alike(t, what+": the IDs", s.IDs(), idsOf(chunks))
	alike(t, what+": Scrub", s.Scrub(), nil)
	for _, c := range chunks {
		id := hexa.ID(c)
		if got, err := s.Get(id); got != c || err != api.OK || !s.Has(id) {
			t.Errorf("%s: Get answers %.80q, error %d, Has %t; want %.80q", what, got, err, s.Has(id), c)
		}
	}
}

// idsOf is the IDs of chunks, rising.
func idsOf(chunks []string) []string {
	var ids []string
	for _, c := range chunks {
		ids = append(ids, hexa.ID(c))
	}
	slices.Sort(ids)
	return ids
}

// hasNot fails if something is there under this ID.
func hasNot(t *testing.T, what string, s *blob.Store, id string, want api.Errno) {
	t.Helper()
	if got, err := s.Get(id); got != "" || err != want || s.Has(id) {
		t.Errorf("%s: Get(%.80q) answers %.80q, error %d, Has %t; want error %d", what, id, got, err, s.Has(id), want)
	}
}

// ends fails unless the store is at its end, which changes nothing that it has, or that is on the disk.
func ends(t *testing.T, what string, s *blob.Store, d *disk.Disk) {
	t.Helper()
	what += ": behind the end"
	ids, segments, files := s.IDs(), s.Segments(), onDisk(d)
	for _, l := range [][]string{nil, {""}, {"a"}, {"a", "new"}, {long}} {
		answers(t, what+": Put", s.Put(l), api.ErrState)
	}
	for _, id := range append([]string{"", idA, idNone}, ids...) {
		answers(t, what+": Delete", s.Delete(id), api.ErrState)
	}
	answers(t, what+": Compact", s.Compact(), api.ErrState)
	alike(t, what+": the IDs", s.IDs(), ids)
	if got := s.Segments(); got != segments {
		t.Errorf("%s: %d segments; want %d", what, got, segments)
	}
	alike(t, what+": the disk", onDisk(d), files)
}

// Promise 10.1: what Open asks.

func TestOpenOfNoDisk(t *testing.T) {
	for _, seg := range []int{0, 1, great, great + 1} {
		opensNot(t, nil, "blob", seg, api.ErrNil)
		opensNot(t, nil, "Blob", seg, api.ErrNil)
	}
}

func TestOpenOfADiskThatIsOff(t *testing.T) {
	d := wide("blob-00000001", cameA, "blob-new", "x")
	d.Fuse(0)
	answers(t, "the act at which power goes", d.Append("x", ""), api.ErrOff)
	for _, seg := range []int{-1, 0, 1, great, great + 1} {
		opensNot(t, d, "blob", seg, api.ErrOff)
		opensNot(t, d, "", seg, api.ErrOff)
	}
	stands(t, "a disk that is off", d, "blob-00000001", cameA, "blob-new", "x")
}

func TestOpenRefusesOtherLengthsOfSegments(t *testing.T) {
	for _, seg := range []int{math.MinInt, -1, 0, great + 1, 1 << 32, math.MaxInt} {
		for _, name := range []string{"blob", "", "Blob"} {
			d := wide("blob-00000001", cameA, "blob-new", "x")
			opensNot(t, d, name, seg, api.ErrArg)
			stands(t, "ErrArg", d, "blob-00000001", cameA, "blob-new", "x")
		}
	}
	for _, seg := range []int{1, 2, 4096, great - 1, great} {
		has(t, "a length that may be", opens(t, wide("blob-00000001", cameA), seg), 1, "a")
	}
}

func TestOpenRefusesOtherNames(t *testing.T) {
	names := []string{"", "Blob", "bloB", "blob1", "1", "blob-", "-", "blob.", "b lob", " ", "blob\x00", "\x00", "blöb", "\xff", "`", "{", "A", "Z", "blob-new", strings.Repeat("a", 33), strings.Repeat("z", 1000)}
	for b := range 256 {
		if b < 'a' || b > 'z' {
			names = append(names, "bl"+string([]byte{byte(b)})+"b")
		}
	}
	for _, name := range names {
		d := wide("blob-00000001", cameA, "blob-new", "x")
		opensNot(t, d, name, 1, api.ErrName)
		stands(t, "ErrName", d, "blob-00000001", cameA, "blob-new", "x")
	}
}

func TestOpenTakesEachOtherName(t *testing.T) {
	names := []string{"a", "z", "log", "new", "abcdefghijklmnopqrstuvwxyz", strings.Repeat("a", 31), strings.Repeat("z", 32)}
	for b := 'a'; b <= 'z'; b++ {
		names = append(names, string(b))
	}
	for _, name := range names {
		d := wide(name+"-00000001", cameA, name+"-new", "x")
		s, err := blob.Open(d, name, great)
		answers(t, name, err, api.OK)
		has(t, name, s, 1, "a")
		answers(t, name, s.Put([]string{"b"}), api.OK)
		stands(t, name, d, name+"-00000001", cameA+cameB)
	}
}

// Promise 10.1: what the segments tell.

// A store that is not there has no segment yet, and no act is asked for.
func TestOpenOfNoStore(t *testing.T) {
	d := diskOf(0)
	d.Fuse(0)
	s := opens(t, d, 1)
	has(t, "no store", s, 0)
	hasNot(t, "no store", s, idNone, api.ErrNone)
	stands(t, "no store", d)
}

func TestOpenReadsSegmentsByRisingNumbers(t *testing.T) {
	for _, c := range []struct {
		files  []string
		chunks []string
	}{
		{[]string{"blob-00000001", ""}, nil},
		{[]string{"blob-00000001", cameNone}, []string{""}},
		{[]string{"blob-00000001", cameA + cameB}, []string{"a", "b"}},
		{[]string{"blob-00000001", cameA + cameA}, []string{"a"}},
		{[]string{"blob-00000001", cameA + wentA}, nil},
		{[]string{"blob-00000001", wentA + cameA}, []string{"a"}},
		{[]string{"blob-00000001", cameA + wentA + cameA}, []string{"a"}},
		{[]string{"blob-00000001", cameA + cameA + wentA}, nil},
		{[]string{"blob-00000001", cameNone + wentA + wentNone + cameB}, []string{"b"}},
		{[]string{"blob-00000001", cameA, "blob-00000002", wentA}, nil},
		{[]string{"blob-00000001", wentA, "blob-00000002", cameA}, []string{"a"}},
		{[]string{"blob-00000009", cameA, "blob-00000010", wentA}, nil},
		{[]string{"blob-00000010", cameA, "blob-00000009", wentA}, []string{"a"}},
		{[]string{"blob-12345678", cameA + wentB, "blob-00000001", cameB, "blob-99999999", cameC}, []string{"a", "c"}},
		{[]string{"blob-00000003", cameA, "blob-00000005", wentA, "blob-00000007", cameA, "blob-00000020", cameNone}, []string{"a", ""}},
	} {
		what := strings.Join(c.files, " ")
		d := wide(c.files...)
		d.Fuse(0)
		has(t, what, opens(t, d, great), len(c.files)/2, c.chunks...)
		alike(t, what, onDisk(d), onDisk(wide(c.files...)))
	}
}

func TestOpenReadsManyRecords(t *testing.T) {
	var chunks []string
	var body strings.Builder
	for i := range 3 * api.MaxList {
		chunks = append(chunks, fmt.Sprint(i))
		body.WriteString(rec("\x00" + chunks[i]))
	}
	s := opens(t, wide("blob-00000007", body.String()), great)
	has(t, "many records", s, 1, chunks...)
}

// Records that are none of the store's tell nothing, and those behind them are read.
func TestOpenPassesOtherRecordsOver(t *testing.T) {
	for _, text := range []string{"", "\x02", "\x02a", "\x02" + idA, "\x01", "\x01a", "\x01" + idA[:63], "\x01" + idA + "0", "\x01" + strings.ToUpper(idA), "\x01" + idC, idA, "a", "\x80", "\xff\x00a", strings.Repeat("x", api.MaxText)} {
		for _, body := range []string{cameA + rec(text) + cameB, rec(text) + cameA + cameB, cameA + cameB + rec(text)} {
			d := wide("blob-00000001", body)
			s := opens(t, d, great)
			has(t, "another record", s, 1, "a", "b")
			answers(t, "Put behind another record", s.Put([]string{"c"}), api.OK)
			stands(t, "Put behind another record", d, "blob-00000001", body+cameC)
		}
	}
}

// A chunk is what stands behind a byte 0, also of more bytes than are put; it goes through Compact too.
func TestOpenReadsLongChunks(t *testing.T) {
	for _, c := range []string{long[1:], long, strings.Repeat("y", api.MaxText-1)} {
		d := wide("blob-00000001", rec("\x00"+c))
		s := opens(t, d, great)
		has(t, "a long chunk", s, 1, c)
		answers(t, "Compact of a long chunk", s.Compact(), api.OK)
		stands(t, "Compact of a long chunk", d, "blob-00000002", rec("\x00"+c))
	}
}

// What is not sure is read as what is sure.
func TestOpenReadsATailOfTheDisk(t *testing.T) {
	d := wide("blob-00000001", cameA)
	answers(t, "an act beside the store", d.Append("blob-00000001", cameB), api.OK)
	has(t, "a tail", opens(t, d, great), 1, "a", "b")
	alike(t, "a tail", onDisk(d), []string{"blob-00000001", cameA, cameB})
}

// Names that are of another form are nobody's, and stay.
func TestOpenLeavesOtherFiles(t *testing.T) {
	for _, name := range []string{
		"blob", "blob-", "blo-00000002", "blobs-00000002", "blob.00000002", "blob00000002", "xblob-00000002", "lob-00000002",
		"blob-0000002", "blob-000000002", "blob-100000002", "blob-00000000", "blob-0000000a", "blob-a0000002", "blob--0000002", "blob-0000000-", "blob-0000.002", "blob-.0000002", "blob--00000002", "blob-000000.2",
		"blob-ne", "blob-neww", "blob-new-", "blob-new.1", "blob.new", "blobnew", "new", "blob--new", "-new", "-00000002", "new-00000002", "blob-new-00000002", "b-lob-00000002", "log-00000002", "log-new",
	} {
		d := wide(name, cameB, "blob-00000001", cameA)
		s := opens(t, d, 1)
		has(t, name, s, 1, "a")
		answers(t, name, s.Put([]string{"c"}), api.OK)
		answers(t, name, s.Compact(), api.OK)
		alike(t, name, onDisk(d), onDisk(wide(name, cameB, "blob-00000003", cameC+cameA)))
	}
}

// Stores of two names, of which one begins with the other, do not know each other.
func TestStoresOfOtherNames(t *testing.T) {
	d := wide()
	s := opens(t, d, great)
	other, err := blob.Open(d, "blobs", great)
	answers(t, "blobs", err, api.OK)
	answers(t, "blob", s.Put([]string{"a"}), api.OK)
	answers(t, "blobs", other.Put([]string{"b"}), api.OK)
	answers(t, "blobs", other.Compact(), api.OK)
	has(t, "blob", opens(t, d, great), 1, "a")
	stands(t, "both", d, "blob-00000001", cameA, "blobs-00000002", cameB)
}

// Promise 10.1: the file name and -new.

func TestOpenRemovesTheNewFile(t *testing.T) {
	for _, body := range []string{"", "x", cameB, wentA} {
		for fuse := range 2 {
			d := wide("blob-00000001", cameA, "blob-new", body)
			d.Fuse(fuse)
			if fuse == 0 {
				opensNot(t, d, "blob", great, api.ErrOff)
				stands(t, "power went", d, "blob-00000001", cameA, "blob-new", body)
				d.Crash(0)
			}
			has(t, "no new file", opens(t, d, great), 1, "a")
			stands(t, "no new file", d, "blob-00000001", cameA)
		}
	}
}

// Promise 10.1: a segment that is torn is not written to.

// torn is what may stand behind whole records.
func torn() []string {
	return []string{"x", "\x00", "\x80", "\x80\x00\x00\x00\x00\x00", cameB[:1], cameB[:6], "\x02\x00b\x16\xe1\xa6\xbc", cameNone[:5] + "x", "x" + cameB, "\x03" + cameB + cameC, "\x81\x80\x04" + strings.Repeat("x", 100)}
}

func TestATornSegmentIsNotWrittenTo(t *testing.T) {
	for _, tail := range torn() {
		for _, whole := range []string{"", cameA, cameA + wentA + cameA} {
			var chunks []string
			if whole != "" {
				chunks = []string{"a"}
			}
			d := wide("blob-00000009", whole+tail)
			s := opens(t, d, great)
			has(t, "torn", s, 1, chunks...)
			answers(t, "Put", s.Put([]string{"b"}), api.OK)
			has(t, "a new segment", s, 2, append(chunks, "b")...)
			answers(t, "Put", s.Put([]string{"c"}), api.OK)
			answers(t, "Delete", s.Delete(idB), api.OK)
			stands(t, "a new segment", d, "blob-00000009", whole+tail, "blob-00000010", cameB+cameC+wentB)
			has(t, "opened again", opens(t, d, great), 2, append(chunks, "c")...)
		}
	}
}

func TestDeleteLeavesATornSegment(t *testing.T) {
	for _, tail := range torn() {
		d := wide("blob-00000001", cameA+tail)
		s := opens(t, d, great)
		answers(t, "Delete", s.Delete(idA), api.OK)
		has(t, "Delete", s, 2)
		stands(t, "Delete", d, "blob-00000001", cameA+tail, "blob-00000002", wentA)
		has(t, "opened again", opens(t, d, great), 2)
	}
}

// That one ahead of the last is torn is the same: it is not written to anyhow, and those behind it are read.
func TestATornSegmentAheadOfTheLast(t *testing.T) {
	for _, tail := range torn() {
		d := wide("blob-00000001", cameA+tail, "blob-00000004", wentA+cameB)
		s := opens(t, d, great)
		has(t, "torn ahead", s, 2, "b")
		answers(t, "Put", s.Put([]string{"c"}), api.OK)
		has(t, "Put", s, 2, "b", "c")
		stands(t, "Put", d, "blob-00000001", cameA+tail, "blob-00000004", wentA+cameB+cameC)
	}
}

// A new segment that could not be made leaves the torn one as it was: not written to.
func TestATornSegmentOfAFullDisk(t *testing.T) {
	d := filled(7, "blob-00000001", cameA+"x")
	s := opens(t, d, great)
	answers(t, "Put of more than fits", s.Put([]string{"12"}), api.ErrFull)
	has(t, "ErrFull", s, 1, "a")
	answers(t, "Put of what fits", s.Put([]string{"b"}), api.OK)
	has(t, "Put", s, 2, "a", "b")
	stands(t, "Put", d, "blob-00000001", cameA+"x", "blob-00000002", cameB)
}

// What comes to the file of a segment beside the store makes it neither torn nor whole, and tells nothing; only its length counts.
func TestWhatComesBesideTheStore(t *testing.T) {
	d := wide("blob-00000001", cameA)
	s := opens(t, d, 30)
	lay(d, "blob-00000001", cameC+wentA+"x")
	has(t, "beside", s, 1, "a")
	remove(d, "blob-00000001")
	lay(d, "blob-00000001", strings.Repeat("x", 29))
	answers(t, "Put below the length", s.Put([]string{"b"}), api.OK)
	has(t, "Put below the length", s, 1, "a", "b")
	stands(t, "Put below the length", d, "blob-00000001", strings.Repeat("x", 29)+cameB)

	remove(d, "blob-00000001")
	lay(d, "blob-00000001", strings.Repeat("x", 30))
	answers(t, "Put at the length", s.Put([]string{"c"}), api.OK)
	has(t, "Put at the length", s, 2, "a", "b", "c")
	stands(t, "Put at the length", d, "blob-00000001", strings.Repeat("x", 30), "blob-00000002", cameC)

	lay(d, "blob-00000002", strings.Repeat("y", 22))
	answers(t, "Delete below the length", s.Delete(idA), api.OK)
	stands(t, "Delete below the length", d, "blob-00000001", strings.Repeat("x", 30), "blob-00000002", cameC+strings.Repeat("y", 22)+wentA)
	has(t, "Delete below the length", s, 2, "b", "c")
}

// A file that is gone has no bytes: it is made again.
func TestAFileThatIsGoneBesideTheStore(t *testing.T) {
	d := wide("blob-00000001", cameA, "blob-00000002", cameB)
	s := opens(t, d, 7)
	remove(d, "blob-00000002")
	has(t, "a file is gone", s, 2, "a", "b")
	answers(t, "Put", s.Put([]string{"c"}), api.OK)
	has(t, "Put", s, 2, "a", "b", "c")
	stands(t, "Put", d, "blob-00000001", cameA, "blob-00000002", cameC)
}

// A segment that was torn at Open is not written to, whatever became of its file.
func TestATornSegmentThatIsMadeWhole(t *testing.T) {
	for _, body := range []string{"", cameB} {
		d := wide("blob-00000001", cameA+"x")
		s := opens(t, d, great)
		remove(d, "blob-00000001")
		lay(d, "blob-00000001", body)
		answers(t, "Put", s.Put([]string{"c"}), api.OK)
		has(t, "Put", s, 2, "a", "c")
		stands(t, "Put", d, "blob-00000001", body, "blob-00000002", cameC)
	}
}

// Promise 10.2: Put.

func TestPut(t *testing.T) {
	d := wide()
	s := opens(t, d, great)
	for _, c := range []struct {
		l      []string
		file   string
		chunks []string
	}{
		{[]string{"b", "a"}, cameB + cameA, []string{"a", "b"}},
		{[]string{"a"}, cameB + cameA, []string{"a", "b"}},
		{nil, cameB + cameA, []string{"a", "b"}},
		{[]string{"a", "", "b", "", "a", ""}, cameB + cameA + cameNone, []string{"a", "b", ""}},
		{[]string{"c", "c"}, cameB + cameA + cameNone + cameC, []string{"a", "b", "", "c"}},
	} {
		what := fmt.Sprintf("Put(%q)", c.l)
		before := slices.Clone(c.l)
		answers(t, what, s.Put(c.l), api.OK)
		alike(t, what+" changed its list", c.l, before)
		has(t, what, s, 1, c.chunks...)
		stands(t, what, d, "blob-00000001", c.file)
		has(t, what+", opened again", opens(t, d.Copy(), great), 1, c.chunks...)
	}
	hasNot(t, "Get", s, hexa.ID("d"), api.ErrNone)
}

func TestPutTakesAnyBytesUpToMaxChunk(t *testing.T) {
	d := wide()
	s := opens(t, d, great)
	chunks := []string{"\x00", "\x01" + idA, "\xff\x80", idA, long[1:], strings.Repeat("\x00", api.MaxChunk), strings.Repeat("z", 126), strings.Repeat("z", 127)}
	answers(t, "Put", s.Put(chunks), api.OK)
	has(t, "Put", s, 1, chunks...)
	has(t, "opened again", opens(t, d, great), 1, chunks...)
}

func TestPutRefusesLongChunks(t *testing.T) {
	d := wide("blob-00000001", cameA)
	s := opens(t, d, great)
	d.Fuse(0)
	for _, l := range [][]string{{long}, {"b", long}, {long, "b"}, {"a", long, "a"}, {"b", long + long, "c"}, {strings.Repeat("x", 1<<20)}} {
		answers(t, "Put of a long chunk", s.Put(l), api.ErrLong)
		has(t, "ErrLong", s, 1, "a")
	}
	stands(t, "ErrLong", d, "blob-00000001", cameA)
	answers(t, "the fuse is as it was", s.Put([]string{"b"}), api.ErrOff)
}

// ErrLong stands ahead of the disk's errors, and does not end the store; one that was read is too long too.
func TestPutOfALongChunkAsksNoDisk(t *testing.T) {
	d := wide("blob-00000001", rec("\x00"+long))
	s := opens(t, d, great)
	answers(t, "Put of a long chunk that is there", s.Put([]string{long}), api.ErrLong)
	d.Fuse(0)
	answers(t, "the act at which power goes", d.Sync("blob-00000001"), api.ErrOff)
	answers(t, "Put of a long chunk", s.Put([]string{"b", long}), api.ErrLong)
	d.Crash(0)
	answers(t, "Put", s.Put([]string{"b"}), api.OK)
	has(t, "Put", s, 1, "b", long)
}

// Where there is nothing to be put, no act is asked for: a disk that is off is as good.
func TestPutOfNothing(t *testing.T) {
	d := wide("blob-00000001", cameA+"x")
	s := opens(t, d, 1)
	d.Fuse(0)
	for range 2 {
		for _, l := range [][]string{nil, {}, {"a"}, {"a", "a"}} {
			answers(t, "Put of nothing", s.Put(l), api.OK)
		}
		has(t, "Put of nothing", s, 1, "a")
		stands(t, "Put of nothing", d, "blob-00000001", cameA+"x")
		answers(t, "the act at which power goes", d.Sync("blob-00000001"), api.ErrOff)
	}
	d.Crash(0)
	answers(t, "Put behind that", s.Put([]string{"b"}), api.OK)
}

func TestPutIsOneAppendAndOneSync(t *testing.T) {
	for n, files := range [][]string{
		{"blob-00000001", cameA, ""},
		{"blob-00000001", cameA, cameC + cameB},
		{"blob-00000001", cameA + cameC + cameB, ""},
	} {
		d := wide("blob-00000001", cameA)
		s := opens(t, d, great)
		d.Fuse(n)
		err := s.Put([]string{"c", "a", "b"})
		alike(t, fmt.Sprintf("fuse %d", n), onDisk(d), files)
		if n == 2 {
			answers(t, "by two acts", err, api.OK)
			has(t, "by two acts", s, 1, "a", "b", "c")
			continue
		}
		answers(t, "power goes", err, api.ErrOff)
		has(t, "power goes", s, 1, "a")
		ends(t, "power goes", s, d)
		d.Crash(0)
		ends(t, "power again", s, d)
		hasNot(t, "power goes", s, idB, api.ErrNone)
		has(t, "opened again", opens(t, d, great), 1, "a")
	}
}

// Power that goes in the middle of a new segment's first Put leaves the store as it was.
func TestPutToANewSegmentWherePowerGoes(t *testing.T) {
	for n, files := range [][]string{
		{"blob-00000001", cameA, ""},
		{"blob-00000001", cameA, "", "blob-00000002", "", cameB},
	} {
		d := wide("blob-00000001", cameA)
		s := opens(t, d, 7)
		d.Fuse(n)
		answers(t, "power goes", s.Put([]string{"b"}), api.ErrOff)
		alike(t, "power goes", onDisk(d), files)
		has(t, "power goes", s, 1, "a")
		ends(t, "power goes", s, d)
		d.Crash(100)
		has(t, "opened again", opens(t, d, 7), len(files)/3, []string{"a", "b"}[:1+n]...)
	}
}

func TestPutToADiskThatIsOff(t *testing.T) {
	d := wide("blob-00000001", cameA)
	for _, seg := range []int{1, great} {
		s := opens(t, d, seg)
		d.Fuse(0)
		answers(t, "an act beside the store", d.Append("x", ""), api.ErrOff)
		answers(t, "Put", s.Put([]string{"b"}), api.ErrOff)
		has(t, "Put", s, 1, "a")
		ends(t, "Put", s, d)
		d.Crash(0)
	}
}

func TestPutToAFullDisk(t *testing.T) {
	for _, seg := range []int{great, 7} {
		d := filled(14, "blob-00000001", cameA)
		s := opens(t, d, seg)
		answers(t, "Put of more than fits", s.Put([]string{"b", "12", "c"}), api.ErrFull)
		has(t, "ErrFull", s, 1, "a")
		hasNot(t, "ErrFull", s, idB, api.ErrNone)
		stands(t, "ErrFull", d, "blob-00000001", cameA)
		answers(t, "Put of what fits", s.Put([]string{"b", "c"}), api.OK)
		answers(t, "Put without room", s.Put([]string{""}), api.ErrFull)
		answers(t, "Put of nothing", s.Put([]string{"c"}), api.OK)
		answers(t, "Delete without room", s.Delete(idA), api.ErrFull)
		has(t, "a full disk", opens(t, d, seg), s.Segments(), "a", "b", "c")
	}
}

func TestPutWithoutRoomForAFile(t *testing.T) {
	d := wide("blob-00000001", cameA)
	for i := range api.MaxFiles - 1 {
		lay(d, fmt.Sprintf("f%d", i), "")
	}
	s := opens(t, d, 8)
	answers(t, "Put to the last segment", s.Put([]string{"b"}), api.OK)
	answers(t, "Put to a new segment", s.Put([]string{"c"}), api.ErrFull)
	answers(t, "Delete by a new segment", s.Delete(idA), api.ErrFull)
	answers(t, "Compact", s.Compact(), api.ErrFull)
	has(t, "no room for a file", s, 1, "a", "b")
	remove(d, "f0")
	answers(t, "Put to a new segment", s.Put([]string{"c"}), api.OK)
	has(t, "room for a file", s, 2, "a", "b", "c")
}

// Promise 10.2: the last segment.

func TestASegmentIsWrittenToBelowItsLength(t *testing.T) {
	for seg := 1; seg <= 30; seg++ {
		d := wide()
		s := opens(t, d, seg)
		var files, chunks []string
		for i := range 12 {
			c := strings.Repeat(string(rune('a'+i)), i%4)
			if i%4 == 0 && i > 0 {
				c = fmt.Sprintf("%04d", i)
			}
			if n := len(files); n == 0 || len(files[n-1]) >= seg {
				files = append(files, fmt.Sprintf("blob-%08d", n/2+1), "")
			}
			files[len(files)-1] += rec("\x00" + c)
			chunks = append(chunks, c)
			answers(t, "Put", s.Put([]string{c}), api.OK)
			has(t, fmt.Sprintf("seg %d", seg), s, len(files)/2, chunks...)
			stands(t, fmt.Sprintf("seg %d", seg), d, files...)
		}
		s = opens(t, d, seg)
		has(t, "opened again", s, len(files)/2, chunks...)
	}
}

// One Put is one segment's, however long it is.
func TestAPutIsOfOneSegment(t *testing.T) {
	d := wide()
	s := opens(t, d, 1)
	answers(t, "Put", s.Put([]string{"a", "b", "c"}), api.OK)
	answers(t, "Put", s.Put([]string{""}), api.OK)
	has(t, "Put", s, 2, "a", "b", "c", "")
	stands(t, "Put", d, "blob-00000001", cameA+cameB+cameC, "blob-00000002", cameNone)
}

func TestTheGreatestNumberIsTheLastSegment(t *testing.T) {
	for _, c := range []struct {
		files []string
		seg   int
		file  string
	}{
		{[]string{"blob-00000001", "", "blob-00000002", cameA}, 8, "blob-00000002"},
		{[]string{"blob-00000001", "", "blob-00000002", cameA}, 7, "blob-00000003"},
		{[]string{"blob-00000010", cameA, "blob-00000009", ""}, 8, "blob-00000010"},
		{[]string{"blob-00000010", cameA, "blob-00000009", ""}, 7, "blob-00000011"},
		{[]string{"blob-00000005", ""}, 1, "blob-00000005"},
		{[]string{"blob-00000001", "", "blob-00000099", cameA}, 1, "blob-00000100"},
		{nil, 1, "blob-00000001"},
	} {
		d := wide(c.files...)
		answers(t, c.file, opens(t, d, c.seg).Put([]string{"b"}), api.OK)
		want := wide(c.files...)
		lay(want, c.file, cameB)
		alike(t, c.file, onDisk(d), onDisk(want))
	}
}

// The segment behind 99999999 is written to, but is none when the store is opened.
func TestTheLastNumber(t *testing.T) {
	d := wide("blob-99999998", cameA)
	s := opens(t, d, 1)
	answers(t, "Put", s.Put([]string{"b"}), api.OK)
	answers(t, "Put", s.Put([]string{"c"}), api.OK)
	has(t, "behind 99999999", s, 3, "a", "b", "c")
	stands(t, "behind 99999999", d, "blob-00000000", cameC, "blob-99999998", cameA, "blob-99999999", cameB)
	has(t, "opened again", opens(t, d, 1), 2, "a", "b")
	answers(t, "Compact", s.Compact(), api.OK)
	has(t, "Compact", s, 1, "a", "b", "c")
	stands(t, "Compact", d, "blob-00000001", cameC+cameB+cameA)
	has(t, "opened again", opens(t, d, 1), 1, "a", "b", "c")
}

// Where numbers come round to a segment that is there, the new one takes its place, and stays.
func TestCompactOverASegmentOfItsName(t *testing.T) {
	d := wide("blob-00000001", cameA, "blob-99999999", cameB)
	s := opens(t, d, 1)
	answers(t, "Put", s.Put([]string{"c"}), api.OK)
	answers(t, "Compact", s.Compact(), api.OK)
	has(t, "Compact", s, 1, "a", "b", "c")
	stands(t, "Compact", d, "blob-00000001", cameC+cameB+cameA)
}

// Promise 10.2: Get, Has.

func TestGetOfWhatIsNotThere(t *testing.T) {
	s := opens(t, wide("blob-00000001", cameA+cameB+wentB), great)
	for _, id := range []string{"", "a", idB, idC, idNone, strings.ToUpper(idA), idA[:63], idA + "0", idA + "\x00", " " + idA, "\x00a", long} {
		hasNot(t, "not there", s, id, api.ErrNone)
	}
	has(t, "there", s, 1, "a")
}

// Promise 10.2: Delete.

func TestDelete(t *testing.T) {
	d := wide()
	s := opens(t, d, great)
	answers(t, "Put", s.Put([]string{"a", "b", ""}), api.OK)
	file := cameA + cameB + cameNone
	for _, c := range []struct {
		id, record string
		left       []string
	}{
		{idA, wentA, []string{"b", ""}},
		{idNone, wentNone, []string{"b"}},
		{idB, wentB, nil},
	} {
		answers(t, "Delete", s.Delete(c.id), api.OK)
		file += c.record
		has(t, "Delete", s, 1, c.left...)
		hasNot(t, "Delete", s, c.id, api.ErrNone)
		answers(t, "Delete again", s.Delete(c.id), api.ErrNone)
		stands(t, "Delete", d, "blob-00000001", file)
		has(t, "opened again", opens(t, d.Copy(), great), 1, c.left...)
	}
	answers(t, "Put again", s.Put([]string{"b"}), api.OK)
	has(t, "Put again", s, 1, "b")
	stands(t, "Put again", d, "blob-00000001", file+cameB)
	has(t, "opened again", opens(t, d, great), 1, "b")
}

// ErrNone asks no disk, and does not end the store.
func TestDeleteOfWhatIsNotThere(t *testing.T) {
	d := wide("blob-00000001", cameA+cameB+wentB)
	s := opens(t, d, great)
	d.Fuse(0)
	for _, id := range []string{"", "a", idB, idC, strings.ToUpper(idA), idA + "0"} {
		answers(t, "Delete", s.Delete(id), api.ErrNone)
	}
	answers(t, "the act at which power goes", d.Sync("blob-00000001"), api.ErrOff)
	answers(t, "Delete", s.Delete(idB), api.ErrNone)
	d.Crash(0)
	has(t, "ErrNone", s, 1, "a")
	answers(t, "Delete", s.Delete(idA), api.OK)
}

func TestDeleteIsOneAppendAndOneSync(t *testing.T) {
	for n, files := range [][]string{
		{"blob-00000001", cameA + cameB, ""},
		{"blob-00000001", cameA + cameB, wentA},
		{"blob-00000001", cameA + cameB + wentA, ""},
	} {
		d := wide("blob-00000001", cameA+cameB)
		s := opens(t, d, great)
		d.Fuse(n)
		err := s.Delete(idA)
		alike(t, fmt.Sprintf("fuse %d", n), onDisk(d), files)
		if n == 2 {
			answers(t, "by two acts", err, api.OK)
			has(t, "by two acts", s, 1, "b")
			continue
		}
		answers(t, "power goes", err, api.ErrOff)
		has(t, "power goes", s, 1, "a", "b")
		ends(t, "power goes", s, d)
		d.Crash(0)
		ends(t, "power again", s, d)
		has(t, "opened again", opens(t, d, great), 1, "a", "b")
	}
}

func TestDeleteByANewSegment(t *testing.T) {
	d := wide("blob-00000001", cameA)
	s := opens(t, d, 7)
	answers(t, "Delete", s.Delete(idA), api.OK)
	has(t, "Delete", s, 2)
	stands(t, "Delete", d, "blob-00000001", cameA, "blob-00000002", wentA)
	has(t, "opened again", opens(t, d, 7), 2)
}

func TestDeleteOnAFullDisk(t *testing.T) {
	d := filled(69, "blob-00000001", cameA)
	s := opens(t, d, great)
	answers(t, "Delete", s.Delete(idA), api.ErrFull)
	has(t, "ErrFull", s, 1, "a")
	stands(t, "ErrFull", d, "blob-00000001", cameA)
	answers(t, "Put", s.Put([]string{"b"}), api.OK)
	has(t, "behind ErrFull", s, 1, "a", "b")
}

// Promise 10.3: Compact.

func TestCompact(t *testing.T) {
	for _, c := range []struct {
		files      []string
		seg        int
		chunks     []string
		file, body string
	}{
		{nil, great, nil, "blob-00000001", ""},
		{[]string{"blob-00000004", ""}, great, nil, "blob-00000005", ""},
		{[]string{"blob-00000001", cameA + wentA}, great, nil, "blob-00000002", ""},
		{[]string{"blob-00000001", cameNone + cameA + cameC + cameB}, great, []string{"a", "b", "c", ""}, "blob-00000002", cameC + cameB + cameA + cameNone},
		{[]string{"blob-00000001", cameA, "blob-00000002", cameB + wentA}, 1, []string{"b"}, "blob-00000003", cameB},
		{[]string{"blob-00000007", cameA + "x", "blob-00000012", rec("other") + cameC + "\x80"}, great, []string{"a", "c"}, "blob-00000013", cameC + cameA},
		{[]string{"blob-new", cameB, "blob-00000001", cameA}, great, []string{"a"}, "blob-00000002", cameA},
	} {
		what := strings.Join(c.files, " ")
		d := wide(c.files...)
		s := opens(t, d, c.seg)
		answers(t, what, s.Compact(), api.OK)
		has(t, what, s, 1, c.chunks...)
		stands(t, what, d, c.file, c.body)
		has(t, what+", opened again", opens(t, d.Copy(), c.seg), 1, c.chunks...)
	}
}

// The new segment is the last one: it is written to, if it has fewer bytes than it may, also where the one ahead was torn.
func TestPutBehindCompact(t *testing.T) {
	for _, tail := range []string{"", "x"} {
		d := wide("blob-00000001", cameA+tail)
		s := opens(t, d, 8)
		answers(t, "Compact", s.Compact(), api.OK)
		answers(t, "Put", s.Put([]string{"b"}), api.OK)
		has(t, "Put", s, 1, "a", "b")
		stands(t, "Put", d, "blob-00000002", cameA+cameB)
		answers(t, "Compact", s.Compact(), api.OK)
		stands(t, "Compact", d, "blob-00000003", cameB+cameA)
		answers(t, "Put", s.Put([]string{"c"}), api.OK)
		has(t, "Put", s, 2, "a", "b", "c")
		stands(t, "Put", d, "blob-00000003", cameB+cameA, "blob-00000004", cameC)
	}
}

// Each act of Compact, one behind the other, at which power may go.
func TestCompactWherePowerGoes(t *testing.T) {
	one, two, both := "blob-00000001", "blob-00000003", cameB+cameA
	for n, c := range []struct {
		files    []string
		segments int
		again    int
	}{
		{[]string{one, cameA, "", two, cameB, "", "blob-new", "", "x"}, 2, 2},
		{[]string{one, cameA, "", two, cameB, ""}, 2, 2},
		{[]string{one, cameA, "", two, cameB, "", "blob-new", "", both}, 2, 2},
		{[]string{one, cameA, "", two, cameB, "", "blob-new", both, ""}, 2, 2},
		{[]string{one, cameA, "", two, cameB, "", "blob-00000004", both, ""}, 1, 3},
		{[]string{two, cameB, "", "blob-00000004", both, ""}, 1, 2},
		{[]string{"blob-00000004", both, ""}, 1, 1},
	} {
		what := fmt.Sprintf("fuse %d", n)
		d := wide(one, cameA, two, cameB)
		s := opens(t, d, 1)
		answers(t, "an act beside the store", d.Append("blob-new", "x"), api.OK)
		d.Fuse(n)
		err := s.Compact()
		alike(t, what, onDisk(d), c.files)
		has(t, what, s, c.segments, "a", "b")
		if n == 6 {
			answers(t, what, err, api.OK)
		} else {
			answers(t, what, err, api.ErrOff)
			ends(t, what, s, d)
			d.Crash(0)
			ends(t, what+", power again", s, d)
		}
		has(t, what+", opened again", opens(t, d, 1), c.again, "a", "b")
	}
}

// No chunks are a segment by the same acts.
func TestCompactOfNoChunksWherePowerGoes(t *testing.T) {
	for n, files := range [][]string{
		{},
		{"blob-new", "", ""},
		{"blob-new", "", ""},
		{"blob-00000001", "", ""},
	} {
		d := wide()
		s := opens(t, d, 1)
		d.Fuse(n)
		err := s.Compact()
		alike(t, fmt.Sprintf("fuse %d", n), onDisk(d), files)
		if n == 3 {
			answers(t, "Compact", err, api.OK)
			has(t, "Compact", s, 1)
			continue
		}
		answers(t, "power goes", err, api.ErrOff)
		has(t, "power goes", s, 0)
		ends(t, "power goes", s, d)
	}
}

func TestCompactOfAFullDisk(t *testing.T) {
	for _, beside := range []string{"", "x", "1234"} {
		for _, tail := range []string{"", "x"} {
			d := filled(13, "blob-00000001", cameA+cameB+tail)
			s := opens(t, d, great)
			answers(t, "an act beside the store", d.Append("blob-new", beside), api.OK)
			answers(t, "Compact of more than fits", s.Compact(), api.ErrFull)
			has(t, "ErrFull", s, 1, "a", "b")
			stands(t, "ErrFull", d, "blob-00000001", cameA+cameB+tail)
			answers(t, "Put behind ErrFull", s.Put([]string{""}), api.OK)
			if tail == "" {
				stands(t, "Put behind ErrFull", d, "blob-00000001", cameA+cameB+cameNone)
			} else {
				stands(t, "Put behind ErrFull", d, "blob-00000001", cameA+cameB+tail, "blob-00000002", cameNone)
			}
		}
	}
	d := filled(14, "blob-00000001", cameA+cameB+"x")
	s := opens(t, d, great)
	answers(t, "Compact of what fits", s.Compact(), api.OK)
	has(t, "Compact of what fits", s, 1, "a", "b")
	stands(t, "Compact of what fits", d, "blob-00000002", cameB+cameA)
}

// A file that somebody removed is an error, which ends the store: those ahead of it are gone, those behind it stay.
func TestCompactWhereAFileIsGone(t *testing.T) {
	files := []string{"blob-00000001", cameA, "blob-00000002", cameB, "blob-00000003", cameC}
	for i := range 3 {
		d := wide(files...)
		s := opens(t, d, 1)
		remove(d, files[2*i])
		answers(t, "Compact", s.Compact(), api.ErrNone)
		has(t, "Compact", s, 1, "a", "b", "c")
		stands(t, "Compact", d, append(slices.Clone(files[2*i+2:]), "blob-00000004", cameC+cameB+cameA)...)
		ends(t, "Compact", s, d)
		has(t, "opened again", opens(t, d, 1), 3-i, "a", "b", "c")
	}
}

func TestCompactOfADiskThatIsOff(t *testing.T) {
	d := wide("blob-00000001", cameA)
	s := opens(t, d, 1)
	d.Fuse(0)
	answers(t, "an act beside the store", d.Append("x", ""), api.ErrOff)
	answers(t, "Compact", s.Compact(), api.ErrOff)
	has(t, "Compact", s, 1, "a")
	ends(t, "Compact", s, d)
}

// Promise 10.3: IDs.

func TestIDsThatWereHandedOutStay(t *testing.T) {
	s := opens(t, wide(), great)
	answers(t, "Put", s.Put([]string{"a", "b"}), api.OK)
	ids := s.IDs()
	ids[0] = "x"
	has(t, "written to", s, 1, "a", "b")
	ids = s.IDs()
	answers(t, "Put", s.Put([]string{"c", ""}), api.OK)
	answers(t, "Delete", s.Delete(idA), api.OK)
	alike(t, "handed out", ids, []string{idB, idA})
	alike(t, "IDs", s.IDs(), []string{idC, idB, idNone})
}

// On nil.

func TestNoStore(t *testing.T) {
	var s *blob.Store
	for _, l := range [][]string{nil, {"a"}, {long}} {
		answers(t, "Put to no store", s.Put(l), api.ErrNil)
	}
	for _, id := range []string{"", idA} {
		answers(t, "Delete of no store", s.Delete(id), api.ErrNil)
		hasNot(t, "no store", s, id, api.ErrNil)
	}
	answers(t, "Compact of no store", s.Compact(), api.ErrNil)
	has(t, "no store", s, 0)
}

// The chapter's example.
func TestExample(t *testing.T) {
	s := opens(t, wide(), great)
	answers(t, "Put", s.Put([]string{"a", "b"}), api.OK)
	if !s.Has(idA) {
		t.Error("a is not there")
	}
}
