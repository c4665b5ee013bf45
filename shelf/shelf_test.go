package shelf

import (
	"slices"
	"testing"
)

// twin gives other bytes with the same digest: what is turned is a multiple of
// the sum's polynomial.
func twin(s string) string {
	b := []byte(s)
	for i, turn := range []byte{0x41, 0x06, 0x71, 0xdb, 0x01} {
		b[i] ^= turn
	}
	return string(b)
}

func checkPut(t *testing.T, s *Shelf, chunk string, want int) {
	t.Helper()
	if got := s.Put(chunk); got != want {
		t.Errorf("%q has number %d, want %d", chunk, got, want)
	}
}

func TestPut(t *testing.T) {
	s := New()
	checkPut(t, s, "first", 0)
	checkPut(t, s, "second", 1)
	checkPut(t, s, "first", 0)
	checkPut(t, s, "third", 2)
	checkPut(t, s, "second", 1)
	if s.Count() != 3 || s.At(2) != "third" || !slices.Equal(s.From(1), []string{"second", "third"}) {
		t.Errorf("on the shelf are %q", s.chunks)
	}
}

func TestOneDigest(t *testing.T) {
	s := New()
	one, other := "chunk", twin("chunk")
	if digestOf(one) != digestOf(other) || one == other {
		t.Fatal("these are no twins")
	}
	checkPut(t, s, one, 0)
	checkPut(t, s, other, 1)
	checkPut(t, s, one, 0)
	checkPut(t, s, other, 1)
	if s.At(0) != one || s.At(1) != other {
		t.Errorf("on the shelf are %q", s.chunks)
	}
}

func TestTakeBack(t *testing.T) {
	s := New()
	for i, chunk := range []string{"chunk", "other", twin("chunk"), "more!", twin("other"), twin("more!")} {
		checkPut(t, s, chunk, i)
	}
	s.TakeBack(6)
	if s.Count() != 6 {
		t.Errorf("%d chunks, want 6", s.Count())
	}
	s.TakeBack(2)
	if s.Count() != 2 || len(s.found) != 2 {
		t.Errorf("%q and %v are left", s.chunks, s.found)
	}
	checkPut(t, s, "chunk", 0)
	checkPut(t, s, "other", 1)
	checkPut(t, s, twin("more!"), 2)
	checkPut(t, s, "more!", 3)
	checkPut(t, s, twin("other"), 4)
	s.TakeBack(0)
	if s.Count() != 0 || len(s.found) != 0 {
		t.Errorf("%q and %v are left", s.chunks, s.found)
	}
}
