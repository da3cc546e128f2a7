package blob

import (
	"slices"
	"testing"

	"almonry/disk"
	"almonry/hexa"
)

// Scrub asks the bytes that are there. None of the calls makes other ones of them, so they are changed here by hand.
func TestScrubTellsChunksOfOtherBytes(t *testing.T) {
	d, _ := disk.New(1000)
	s, err := Open(d, "blob", 1)
	if s == nil {
		t.Fatalf("Open answers error %d", err)
	}
	s.Put([]string{"a", "b", "c", ""})
	if got := s.Scrub(); len(got) != 0 {
		t.Errorf("Scrub of what was put is %q", got)
	}
	a, c := hexa.ID("a"), hexa.ID("c")
	s.chunks[a], s.chunks[c] = piece{"A"}, piece{"a"}
	if got, want := s.Scrub(), []string{c, a}; !slices.Equal(got, want) {
		t.Errorf("Scrub is %q; want %q", got, want)
	}
	if got := s.IDs(); len(got) != 4 {
		t.Errorf("behind Scrub the IDs are %q", got)
	}
}
