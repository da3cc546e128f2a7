package blob_test

import (
	"fmt"
	"maps"
	"math/rand/v2"
	"regexp"
	"slices"
	"strconv"
	"strings"
	"testing"

	"almonry/api"
	"almonry/blob"
	"almonry/disk"
	"almonry/frame"
	"almonry/hexa"
)

// Promise 10.4: behind a crash.

// A store is filled, emptied and compacted, till power goes; wherever that is, and whatever is kept of the tails, Open tells what was answered, and of the last Put perhaps a beginning. Power may go in the middle of that Open too.
func TestCrashesAnywhere(t *testing.T) {
	for _, seg := range []int{1, 60, great} {
		for fuse := range 70 {
			for _, keep := range []int{-1, 0, 1, 6, 7, 8, 15, 69, 70, 1000} {
				crash(t, seg, fuse, keep)
				if t.Failed() {
					return
				}
			}
		}
	}
}

// crash does steps till power goes, and opens the store behind it, where power goes once more.
func crash(t *testing.T, seg, fuse, keep int) {
	what := fmt.Sprintf("seg %d, fuse %d, keep %d", seg, fuse, keep)
	d := wide()
	s := opens(t, d, seg)
	d.Fuse(fuse)
	var sure []string
	var may [][]string
	for i := 0; !d.Off() && !t.Failed(); i++ {
		sure, may = step(t, s, i, sure)
	}
	ends(t, what, s, d)
	d.Crash(keep)
	d.Fuse(0)
	if _, err := blob.Open(d, "blob", seg); err != api.OK && err != api.ErrOff {
		t.Errorf("%s: Open answers error %d", what, err)
	}
	d.Crash(keep)
	s = opens(t, d, seg)
	if got := s.IDs(); !slices.ContainsFunc(may, func(l []string) bool { return slices.Equal(got, idsOf(l)) }) {
		t.Errorf("%s: behind the crash there is %q; want one of %q", what, got, may)
	}
	there := s.IDs()
	answers(t, what+": Put", s.Put([]string{"more"}), api.OK)
	answers(t, what+": Compact", s.Compact(), api.OK)
	answers(t, what+": Delete", s.Delete(hexa.ID("more")), api.OK)
	alike(t, what+": opened once more", opens(t, d, seg).IDs(), there)
}

// step does one thing more to a store that has these chunks; it tells what is there behind it, and what may be where power went in the middle.
func step(t *testing.T, s *blob.Store, i int, sure []string) ([]string, [][]string) {
	may := [][]string{sure}
	var err api.Errno
	switch i % 5 {
	case 3:
		err = s.Delete(hexa.ID(sure[1]))
		may = append(may, append(slices.Clone(sure[:1]), sure[2:]...))
	case 4:
		err = s.Compact()
	default:
		l := []string{fmt.Sprint("first", i), "", strings.Repeat("m", i)}
		err = s.Put(l)
		for _, c := range l {
			if last := may[len(may)-1]; !slices.Contains(last, c) {
				may = append(may, append(slices.Clone(last), c))
			}
		}
	}
	if err == api.OK {
		return may[len(may)-1], may
	}
	answers(t, "a step where power goes", err, api.ErrOff)
	return sure, may
}

// Promises 10.1 to 10.3 once more: scripts of all that can be done, held against a plain model.

// model is a store as the promises tell it: lists of acts, that are done on a disk of its own till the first error.
type model struct {
	d      *disk.Disk
	seg    int
	chunks map[string]string
	nums   []int
	closed bool
	ended  bool
}

// act is one act of a disk.
type act struct{ kind, file, arg string }

// do does acts, and answers the first error, and at which of them.
func (m *model) do(acts ...act) (api.Errno, int) {
	for i, a := range acts {
		err := api.OK
		switch a.kind {
		case "append":
			err = m.d.Append(a.file, a.arg)
		case "sync":
			err = m.d.Sync(a.file)
		case "rename":
			err = m.d.Rename(a.file, a.arg)
		case "remove":
			err = m.d.Remove(a.file)
		case "clear":
			if slices.Contains(m.d.List(""), a.file) {
				err = m.d.Remove(a.file)
			}
		}
		if err != api.OK {
			m.ended = err != api.ErrFull
			return err, i
		}
	}
	return api.OK, len(acts)
}

// segment is the name of a segment's file.
func segment(n int) string { return fmt.Sprintf("blob-%08d", n%100000000) }

// open does what Open should, and tells its error.
func (m *model) open() api.Errno {
	if m.d.Off() {
		return api.ErrOff
	}
	*m = model{d: m.d, seg: m.seg, chunks: map[string]string{}}
	form := regexp.MustCompile("^blob-([0-9]{8})$")
	names := m.d.List("")
	slices.Sort(names)
	for _, name := range names {
		found := form.FindStringSubmatch(name)
		if found == nil || found[1] == "00000000" {
			continue
		}
		n, _ := strconv.Atoi(found[1])
		m.nums = append(m.nums, n)
		body, _ := m.d.Read(name)
		texts, whole := frame.All(body)
		m.closed = whole != len(body)
		for _, text := range texts {
			switch {
			case text == "":
			case text[0] == 0:
				m.chunks[hexa.ID(text[1:])] = text[1:]
			case text[0] == 1:
				delete(m.chunks, text[1:])
			}
		}
	}
	err, _ := m.do(act{"clear", "blob-new", ""})
	return err
}

// greatest is the greatest number of a segment, or 0.
func (m *model) greatest() int { return slices.Max(append([]int{0}, m.nums...)) }

// write does what the promises say of records, and tells the disk's error.
func (m *model) write(texts ...string) api.Errno {
	n := m.greatest()
	body, _ := m.d.Read(segment(n))
	if n == 0 || m.closed || len(body) >= m.seg {
		n++
	}
	err, _ := m.do(act{"append", segment(n), rec(texts...)}, act{"sync", segment(n), ""})
	if err == api.OK && !slices.Contains(m.nums, n) {
		m.nums, m.closed = append(m.nums, n), false
	}
	return err
}

// put does what Put should.
func (m *model) put(l []string) api.Errno {
	if m.ended {
		return api.ErrState
	}
	then := maps.Clone(m.chunks)
	var texts []string
	for _, c := range l {
		if len(c) > 4096 {
			return api.ErrLong
		}
		if _, ok := then[hexa.ID(c)]; !ok {
			then[hexa.ID(c)] = c
			texts = append(texts, "\x00"+c)
		}
	}
	if len(texts) == 0 {
		return api.OK
	}
	err := m.write(texts...)
	if err == api.OK {
		m.chunks = then
	}
	return err
}

// remove does what Delete should.
func (m *model) remove(id string) api.Errno {
	if m.ended {
		return api.ErrState
	}
	if _, ok := m.chunks[id]; !ok {
		return api.ErrNone
	}
	err := m.write("\x01" + id)
	if err == api.OK {
		delete(m.chunks, id)
	}
	return err
}

// compact does what Compact should.
func (m *model) compact() api.Errno {
	if m.ended {
		return api.ErrState
	}
	var texts []string
	for _, id := range idsOf(m.all()) {
		texts = append(texts, "\x00"+m.chunks[id])
	}
	n := m.greatest() + 1
	acts := []act{{"clear", "blob-new", ""}, {"append", "blob-new", rec(texts...)}, {"sync", "blob-new", ""}, {"rename", "blob-new", segment(n)}}
	for _, other := range m.nums {
		acts = append(acts, act{"remove", segment(other), ""})
	}
	err, at := m.do(acts...)
	if at > 3 {
		m.nums, m.closed = []int{n}, false
	}
	return err
}

// all is the chunks that are there.
func (m *model) all() []string { return slices.Collect(maps.Values(m.chunks)) }

// besides are files that acts beside the store are done with, most of them its own.
var besides = []string{"blob-new", "blob-00000000", "blob-00000001", "blob-00000002", "blob-00000003", "blob-00000005", "blob-00000012", "blob-99999990", "blob-000000001", "blobs-00000001", "blob-", "blob"}

// bodies are what is appended beside the store.
var bodies = []string{"", "x", cameNone, cameA, cameB + "y", cameC + wentA, "\x00\x51\x53\x7d\x52" + wentB, "\x80\x00", cameB[:5]}

// script is bytes that say what is done.
type script struct{ data []byte }

// next takes a number below n off the script; 0 behind its end.
func (s *script) next(n int) int {
	if len(s.data) == 0 {
		return 0
	}
	b := s.data[0]
	s.data = s.data[1:]
	return int(b) % n
}

// chunk takes a chunk off the script: one of few short ones, mostly.
func (s *script) chunk() string {
	switch n := s.next(40); {
	case n == 0:
		return long
	case n < 4:
		return strings.Repeat("l", 20*n)
	default:
		return "abcdefgh"[n%8 : n%8+min(n/8, 8-n%8)]
	}
}

// pair is a store and its model, each on a disk of its own.
type pair struct {
	d *disk.Disk
	s *blob.Store
	m *model
}

// step does one step of a script to both.
func (p *pair) step(t *testing.T, what string, kind int, s *script) {
	switch kind {
	case 0:
		got, err := blob.Open(p.d, "blob", p.m.seg)
		answers(t, what, err, p.m.open())
		if (got != nil) != (err == api.OK) {
			t.Errorf("%s: error %d, and a store: %t", what, err, got != nil)
		}
		p.s = got
	case 1, 2, 3:
		l := make([]string, s.next(5))
		for i := range l {
			l[i] = s.chunk()
		}
		answers(t, what, p.s.Put(l), p.m.put(l))
	case 4, 5:
		id := hexa.ID(s.chunk())
		answers(t, what, p.s.Delete(id), p.m.remove(id))
	case 6:
		answers(t, what, p.s.Compact(), p.m.compact())
	case 7:
		n := s.next(14)
		p.d.Fuse(n)
		p.m.d.Fuse(n)
	case 8:
		file, body := besides[s.next(len(besides))], bodies[s.next(len(bodies))]
		answers(t, what, p.d.Append(file, body), p.m.d.Append(file, body))
	case 9:
		file := besides[s.next(len(besides))]
		answers(t, what, p.d.Remove(file), p.m.d.Remove(file))
	}
	if keep := s.next(80); p.d.Off() && keep < 60 || keep == 79 {
		p.d.Crash(keep)
		p.m.d.Crash(keep)
	}
}

// run does a script's steps to a store, and to the model. There is no store ahead of the first Open, nor behind one that failed.
func run(t *testing.T, room, seg int, s *script) {
	d := diskOf(room)
	p := &pair{d: d, m: &model{d: d.Copy(), seg: seg}}
	for i := 0; len(s.data) > 0; i++ {
		kind := s.next(10)
		if p.s == nil {
			kind = []int{0, 0, 8}[kind%3]
		}
		what := fmt.Sprintf("step %d, kind %d", i, kind)
		p.step(t, what, kind, s)
		alike(t, what+": the disk", onDisk(p.d), onDisk(p.m.d))
		if p.s != nil {
			has(t, what, p.s, len(p.m.nums), p.m.all()...)
		}
		if t.Failed() {
			return
		}
	}
}

// noise is bytes by chance, the same for each seed.
func noise(seed uint64, n int) []byte {
	r := rand.New(rand.NewPCG(seed, 10))
	out := make([]byte, n)
	for i := range out {
		out[i] = byte(r.Uint32())
	}
	return out
}

func TestScripts(t *testing.T) {
	for seed := range uint64(600) {
		room := []int{0, 20, 80, 200, 500, 3000}[seed%6]
		segs := []int{1, 7, 40, 150, great}
		run(t, room, segs[seed/6%5], &script{noise(seed, 300)})
		if t.Failed() {
			t.Fatalf("seed %d", seed)
		}
	}
}

func FuzzScripts(f *testing.F) {
	for seed := range uint64(5) {
		f.Add(100*int(seed), 1+40*int(seed), noise(seed, 200))
	}
	f.Fuzz(func(t *testing.T, room, seg int, data []byte) {
		run(t, max(room, 0)%1000, 1+max(seg, 0)%great, &script{data[:min(len(data), 1000)]})
	})
}
