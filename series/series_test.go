package series_test

import (
	"math"
	"slices"
	"strings"
	"testing"

	"almonry/api"
	"almonry/disk"
	"almonry/series"
)

// filled is a disk of so much room with these files, that are sure: names and bytes, by turns.
func filled(t *testing.T, room int, files ...string) *disk.Disk {
	t.Helper()
	d, err := disk.New(room)
	if err != api.OK {
		t.Fatalf("New(%d): error %d", room, err)
	}
	for i := 0; i < len(files); i += 2 {
		if d.Append(files[i], files[i+1]) != api.OK || d.Sync(files[i]) != api.OK {
			t.Fatalf("%s can not be made", files[i])
		}
	}
	return d
}

// told is what stays of a disk when so many bytes of each tail are kept: names and bytes, by turns.
func told(d *disk.Disk, keep int) []string {
	d = d.Copy()
	d.Crash(keep)
	var files []string
	for _, name := range d.List("") {
		body, _ := d.Read(name)
		files = append(files, name, body)
	}
	return files
}

func TestIsName(t *testing.T) {
	for _, name := range []string{"a", "z", "log", "new", strings.Repeat("m", 32)} {
		if !series.IsName(name) {
			t.Errorf("%q is no name", name)
		}
	}
	for _, name := range []string{"", strings.Repeat("m", 33), "log-", "l0g", "lög", "log\x00", " log"} {
		if series.IsName(name) {
			t.Errorf("%q is a name", name)
		}
	}
	for b := range 256 {
		if got, want := series.IsName("lo"+string([]byte{byte(b)})), b >= 'a' && b <= 'z'; got != want {
			t.Errorf("lo and the byte %d: a name: %t", b, got)
		}
	}
}

func TestNumberAndFile(t *testing.T) {
	s := series.Of(filled(t, 0), "log")
	for n, file := range map[int]string{
		1: "log-00000001", 9: "log-00000009", 10: "log-00000010", 12345678: "log-12345678", 99999999: "log-99999999",
	} {
		if got := s.File(n); got != file {
			t.Errorf("File(%d) is %q; want %q", n, got, file)
		}
		if got := s.Number(file); got != n {
			t.Errorf("Number(%q) is %d; want %d", file, got, n)
		}
	}
	for n, file := range map[int]string{
		100_000_000: "log-00000000", 100_000_001: "log-00000001", 212_345_678: "log-12345678", 1_000_000_007: "log-00000007",
	} {
		if got := s.File(n); got != file {
			t.Errorf("File(%d) is %q; want %q", n, got, file)
		}
	}
	for _, file := range []string{
		"", "log", "log-", "log-new", "log-00000000", "log-0000001", "log-000000001", "log-100000001", "log-0000000a", "log--0000001", "log-+0000001",
		"log-0000_001", "log-0000.001", "log-0x000001", "log-00000001 ", "lo-00000001", "logs-00000001", "xlog-00000001", "log.00000001", "log00000001",
	} {
		if got := s.Number(file); got != 0 {
			t.Errorf("Number(%q) is %d", file, got)
		}
	}
	if got := s.Fresh(); got != "log-new" {
		t.Errorf("Fresh is %q", got)
	}
}

func TestList(t *testing.T) {
	d := filled(t, 0, "log-00000010", "", "log-00000009", "", "log-00000000", "", "log-new", "", "logs-00000001", "", "lo-00000001", "", "log-99999999", "", "log-1", "")
	got := series.Of(d, "log").List()
	if want := []string{"log-00000009", "log-00000010", "log-99999999"}; !slices.Equal(got, want) {
		t.Errorf("List is %q; want %q", got, want)
	}
	if got := series.Of(filled(t, 0), "log").List(); len(got) != 0 {
		t.Errorf("List of no files is %q", got)
	}
}

func TestDrop(t *testing.T) {
	d := filled(t, 0, "a", "", "b", "")
	s := series.Of(d, "log")
	for _, c := range []struct {
		file string
		fuse int
		err  api.Errno
		left []string
	}{
		{"c", 0, api.OK, []string{"a", "", "b", ""}},
		{"a", 1, api.OK, []string{"b", ""}},
		{"a", 0, api.OK, []string{"b", ""}},
		{"b", 0, api.ErrOff, []string{"b", ""}},
		{"a", -1, api.ErrOff, []string{"b", ""}},
	} {
		d.Fuse(c.fuse)
		if err := s.Drop(c.file); err != c.err {
			t.Errorf("Drop(%s), fuse %d: error %d; want %d", c.file, c.fuse, err, c.err)
		}
		if got := told(d, 0); !slices.Equal(got, c.left) {
			t.Errorf("Drop(%s), fuse %d: the disk is %q", c.file, c.fuse, got)
		}
	}
}

// Lay makes a file by four acts; wherever power goes, it has its name with all its bytes, or not.
func TestLay(t *testing.T) {
	for n, c := range []struct{ sure, all []string }{
		{[]string{"log-00000001", "old", "log-new", "x"}, []string{"log-00000001", "old", "log-new", "x"}},
		{[]string{"log-00000001", "old"}, []string{"log-00000001", "old"}},
		{[]string{"log-00000001", "old", "log-new", ""}, []string{"log-00000001", "old", "log-new", "body"}},
		{[]string{"log-00000001", "old", "log-new", "body"}, []string{"log-00000001", "old", "log-new", "body"}},
		{[]string{"log-00000001", "body"}, []string{"log-00000001", "body"}},
	} {
		d := filled(t, 8, "log-00000001", "old", "log-new", "x")
		d.Fuse(n)
		want := api.ErrOff
		if n == 4 {
			want = api.OK
		}
		if err := series.Of(d, "log").Lay("body", 1); err != want {
			t.Errorf("Lay, fuse %d: error %d; want %d", n, err, want)
		}
		if got := told(d, 0); !slices.Equal(got, c.sure) {
			t.Errorf("Lay, fuse %d: %q is sure; want %q", n, got, c.sure)
		}
		if got := told(d, math.MaxInt); !slices.Equal(got, c.all) {
			t.Errorf("Lay, fuse %d: there is %q; want %q", n, got, c.all)
		}
	}
}

func TestLayOnAFullDisk(t *testing.T) {
	d := filled(t, 6, "log-00000001", "old", "log-new", "x")
	s := series.Of(d, "log")
	if err := s.Lay("body", 2); err != api.ErrFull {
		t.Errorf("Lay of more than fits: error %d", err)
	}
	if got := told(d, math.MaxInt); !slices.Equal(got, []string{"log-00000001", "old"}) {
		t.Errorf("behind Lay of more than fits: %q", got)
	}
	if err := s.Lay("", 100_000_002); err != api.OK {
		t.Errorf("Lay of no bytes: error %d", err)
	}
	if got := told(d, 0); !slices.Equal(got, []string{"log-00000001", "old", "log-00000002", ""}) {
		t.Errorf("behind Lay of no bytes: %q", got)
	}
}
