// Package shelf keeps chunks, each once, numbered as they come.
package shelf

import (
	"slices"
	"strings"

	"larder/frame"
)

// digest is so short that chunks which differ may have the same one.
type digest [4]byte

// Shelf holds chunks.
type Shelf struct {
	chunks []string
	found  map[digest][]int // the numbers of the chunks with that digest, rising
}

// New makes an empty shelf.
func New() *Shelf {
	return &Shelf{found: map[digest][]int{}}
}

// Put tells the number of a chunk, and puts it on the shelf if it is not there.
func (s *Shelf) Put(chunk string) int {
	d := digestOf(chunk)
	for _, n := range s.found[d] {
		if s.chunks[n] == chunk {
			return n
		}
	}
	n := len(s.chunks)
	// A copy, as the chunk may be a piece of a stream that was handed in.
	s.chunks = append(s.chunks, strings.Clone(chunk))
	s.found[d] = append(s.found[d], n)
	return n
}

// TakeBack leaves only the first count chunks on the shelf.
func (s *Shelf) TakeBack(count int) {
	for _, chunk := range s.chunks[count:] {
		s.lose(digestOf(chunk))
	}
	s.chunks = slices.Delete(s.chunks, count, len(s.chunks))
}

// lose forgets the chunk that came last with a digest.
func (s *Shelf) lose(d digest) {
	numbers := s.found[d]
	if len(numbers) == 1 {
		delete(s.found, d)
		return
	}
	s.found[d] = numbers[:len(numbers)-1]
}

// Count tells how many chunks there are.
func (s *Shelf) Count() int { return len(s.chunks) }

// At tells the chunk of a number.
func (s *Shelf) At(n int) string { return s.chunks[n] }

// From tells the chunks from a number on. They are only to be read.
func (s *Shelf) From(n int) []string { return s.chunks[n:] }

func digestOf(chunk string) digest { return digest(frame.SumOf(chunk)) }
