// Package series names the numbered files that something of a name has on a disk, and lays a file so that it has its name only when it is whole.
package series

import (
	"strconv"
	"strings"

	"almonry/api"
	"almonry/disk"
)

const (
	// maxName is how many letters a name may have.
	maxName = 32
	// digits is how many digits of a number a file's name has.
	digits = 8
	// wrap is the first number with more digits.
	wrap = 100_000_000
)

// Series is the files of a name on a disk.
type Series struct {
	disk *disk.Disk
	name string
}

// Of tells the files of a name on a disk.
func Of(d *disk.Disk, name string) Series { return Series{disk: d, name: name} }

// IsName tells whether a series may have this name.
func IsName(name string) bool {
	if name == "" || len(name) > maxName {
		return false
	}
	for i := range len(name) {
		if name[i] < 'a' || name[i] > 'z' {
			return false
		}
	}
	return true
}

// List lists the files of the series that are on the disk, by rising numbers.
func (s Series) List() []string {
	var files []string
	for _, file := range s.disk.List(s.name + "-") {
		if s.Number(file) > 0 {
			files = append(files, file)
		}
	}
	return files
}

// Number is the number that a file's name tells; 0, which is none, of a name that is not of the series.
func (s Series) Number(file string) int {
	number, ok := strings.CutPrefix(file, s.name+"-")
	if !ok || len(number) != digits {
		return 0
	}
	// It takes no sign: a minus may stand in a file's name.
	n, err := strconv.ParseUint(number, 10, 64)
	if err != nil {
		return 0
	}
	return int(n)
}

// File is the name of the file of a number: of more digits the last ones.
func (s Series) File(n int) string {
	number := strconv.Itoa(wrap + n)
	return s.name + "-" + number[len(number)-digits:]
}

// Fresh is the name that a file has while it is made.
func (s Series) Fresh() string { return s.name + "-new" }

// Drop removes a file, if it is there.
func (s Series) Drop(file string) api.Errno {
	if err := s.disk.Remove(file); err != api.ErrNone {
		return err
	}
	return api.OK
}

// Lay makes the file of a number, which has its name only when all its bytes are sure. A disk that is too full for it is left without a file that is made.
func (s Series) Lay(body string, n int) api.Errno {
	fresh := s.Fresh()
	if err := s.Drop(fresh); err != api.OK {
		return err
	}
	if err := s.disk.Append(fresh, body); err != api.OK {
		return err
	}
	if err := s.disk.Sync(fresh); err != api.OK {
		return err
	}
	return s.disk.Rename(fresh, s.File(n))
}
