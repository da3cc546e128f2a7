// Package plainly says once more, the long way, how things stand as bytes, and what else tests of several layers hold these against: which bytes, or which order, may stand there instead.
package plainly

import (
	"iter"
	"slices"
	"strings"

	"almonry/api"
)

// Number is how layer 1 puts a number that is not negative, however great it is.
func Number(n int) string {
	var out []byte
	for ; n >= 128; n /= 128 {
		out = append(out, byte(n%128+128))
	}
	return string(append(out, byte(n)))
}

// Numbers are some, one behind the other.
func Numbers(l ...int) string {
	var out strings.Builder
	for _, n := range l {
		out.WriteString(Number(n))
	}
	return out.String()
}

// Text is how layer 1 puts a text, however long it is.
func Text(s string) string { return Number(len(s)) + s }

// Dots is how layer 11 puts names, whether it takes them or not.
func Dots(l ...api.Dot) string {
	var out strings.Builder
	out.WriteString(Number(len(l)))
	for _, d := range l {
		out.WriteString(Numbers(d.Replica, d.N))
	}
	return out.String()
}

// Context is how layer 13 puts a context, whether it takes it or not.
func Context(c api.Context) string { return Numbers(c.V[:]...) + Text(Dots(c.Cloud...)) }

// Fact is how layer 15 puts a fact, whether an update may say it or not.
func Fact(f api.Fact) string {
	return Numbers(f.Dot.Replica, f.Dot.N, f.Stamp.Time, f.Stamp.Count, f.Kind) + Text(f.Name) + Text(f.Value)
}

// Facts is how layer 15 puts facts likewise.
func Facts(l ...api.Fact) string {
	var out strings.Builder
	out.WriteString(Number(len(l)))
	for _, f := range l {
		out.WriteString(Fact(f))
	}
	return out.String()
}

// Manifest is how layer 9 puts a manifest, whether it takes it or not.
func Manifest(m api.Manifest) string {
	var out strings.Builder
	out.WriteString(Numbers(m.Size, m.Chunk, len(m.IDs)))
	for _, id := range m.IDs {
		out.WriteString(Text(id))
	}
	return out.String()
}

// ManifestOf is the manifest that so many bytes may have, in chunks of a size, as layer 9 puts it. Which bytes they are is not said: all IDs are zeros.
func ManifestOf(bytes, size int) string {
	count := (bytes + size - 1) / size
	return Manifest(api.Manifest{Size: bytes, Chunk: size, IDs: slices.Repeat([]string{strings.Repeat("0", 64)}, count)})
}

// WrongNumbers are bytes at which layer 1 tells an error of a number.
func WrongNumbers() map[string]api.Errno {
	return map[string]api.Errno{
		"\x80\x00":                             api.ErrForm,
		"\x81\x00":                             api.ErrForm,
		"\x81\x80\x80\x80\x80\x80\x80\x10":     api.ErrRange,
		"\x80\x80\x80\x80\x80\x80\x80\x80\x01": api.ErrRange,
		"\x80\x80\x80\x80\x80\x80\x80\x80\x00": api.ErrRange,
	}
}

// TakeNumber reads a number as promise 1.2 says, and tells what stands behind it. Its last byte is looked for first.
func TakeNumber(s string) (int, string, api.Errno) {
	last := 0
	for last < len(s) && s[last] >= 128 {
		last++
	}
	switch {
	case last == len(s):
		return 0, "", api.ErrCut
	case last >= 8:
		return 0, "", api.ErrRange
	}
	n := 0
	for i := last; i >= 0; i-- {
		n = n*128 + int(s[i]&127)
	}
	switch {
	case n > api.MaxNum:
		return 0, "", api.ErrRange
	case last > 0 && s[last] == 0:
		return 0, "", api.ErrForm
	}
	return n, s[last+1:], api.OK
}

// TakeText reads a text likewise.
func TakeText(s string) (string, string, api.Errno) {
	size, s, err := TakeNumber(s)
	switch {
	case err != api.OK:
		return "", "", err
	case size > api.MaxText:
		return "", "", api.ErrLong
	case size > len(s):
		return "", "", api.ErrCut
	}
	return s[:size], s[size:], api.OK
}

// Words are all texts of at most so many of these letters, a shorter one ahead of those that begin with it.
func Words(letters string, most int) iter.Seq[string] {
	return func(yield func(string) bool) {
		var walk func(s string) bool
		walk = func(s string) bool {
			if !yield(s) {
				return false
			}
			for i := 0; i < len(letters) && len(s) < most; i++ {
				if !walk(s + letters[i:i+1]) {
					return false
				}
			}
			return true
		}
		walk("")
	}
}

// Changes are s with one byte made another one: each of them each other one.
func Changes(s string) iter.Seq[string] {
	return func(yield func(string) bool) {
		for i := range len(s) {
			for b := range 256 {
				if byte(b) == s[i] {
					continue
				}
				if !yield(s[:i] + string([]byte{byte(b)}) + s[i+1:]) {
					return
				}
			}
		}
	}
}

// Orders are all orders in which few things may stand.
func Orders[T any](l []T) [][]T {
	if len(l) == 0 {
		return [][]T{nil}
	}
	var all [][]T
	for _, rest := range Orders(l[1:]) {
		for i := range len(l) {
			all = append(all, slices.Insert(slices.Clone(rest), i, l[0]))
		}
	}
	return all
}

// Ahead tells whether layer 17 takes f to be said ahead of g: by their stamps, then dots, then values, part by part.
func Ahead(f, g api.Fact) bool {
	fs := [5]int{f.Stamp.Time, f.Stamp.Count, f.Stamp.Replica, f.Dot.Replica, f.Dot.N}
	gs := [5]int{g.Stamp.Time, g.Stamp.Count, g.Stamp.Replica, g.Dot.Replica, g.Dot.N}
	for i := range fs {
		if fs[i] != gs[i] {
			return fs[i] < gs[i]
		}
	}
	return f.Value < g.Value
}

// Choices takes the first byte of s each time, and tells the number below n that it comes to: 0, where no byte is left.
func Choices(s *string) func(n int) int {
	return func(n int) int {
		if *s == "" {
			return 0
		}
		b := int((*s)[0])
		*s = (*s)[1:]
		return b % n
	}
}
