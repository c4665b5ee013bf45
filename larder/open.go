package larder

import (
	"slices"
	"strings"

	"larder/api"
	"larder/frame"
	"larder/record"
)

// Open makes a store of bytes (P7).
func Open(bytes string) (*Store, api.Errno) {
	head, size := frame.First(bytes)
	c, ok := record.ReadHead(head)
	if !ok {
		return nil, api.ErrBytes
	}
	s, e := New(c)
	if e != api.OK {
		return nil, api.ErrBytes
	}
	s.takeFrames(bytes[size:])
	return s, api.OK
}

// takeFrames brings in what bytes begin with, up to the first frame that is not
// whole, has no room or is not right.
func (s *Store) takeFrames(bytes string) {
	for {
		r, size := frame.First(bytes)
		if size == 0 || len(s.written)+size > s.config.Room || !s.take(r) {
			return
		}
		s.written = append(s.written, bytes[:size]...)
		bytes = bytes[size:]
	}
}

// take brings in a chunk or a stream, if the record is right.
func (s *Store) take(r string) bool {
	return s.takeChunk(r) || s.takeStream(r)
}

func (s *Store) takeChunk(r string) bool {
	chunk, ok := record.ReadChunk(r, s.config.Max)
	if !ok {
		return false
	}
	// A chunk that was there ahead has a number of its own already.
	next := s.shelf.Count()
	return s.shelf.Put(chunk) == next
}

func (s *Store) takeStream(r string) bool {
	name, numbers, ok := record.ReadStream(r)
	if !ok || !s.known(numbers) {
		return false
	}
	data := s.join(numbers)
	if s.refusal(name, data) != api.OK || !s.isCutInto(data, numbers) {
		return false
	}
	s.streams[strings.Clone(name)] = numbers
	return true
}

// known tells whether these are the numbers of chunks that are there.
func (s *Store) known(numbers []int) bool {
	return len(numbers) == 0 || slices.Max(numbers) < s.shelf.Count()
}

// isCutInto tells whether the chunks of data are just those with these numbers.
func (s *Store) isCutInto(data string, numbers []int) bool {
	return slices.EqualFunc(s.cutter.Chunks(data), numbers, func(chunk string, n int) bool {
		return chunk == s.shelf.At(n)
	})
}
