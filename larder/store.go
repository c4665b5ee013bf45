package larder

import (
	"maps"
	"math"
	"slices"
	"strings"

	"larder/api"
	"larder/cut"
	"larder/frame"
	"larder/record"
	"larder/shelf"
)

// Store keeps streams.
type Store struct {
	config  api.Config
	cutter  *cut.Cutter
	shelf   *shelf.Shelf
	streams map[string][]int // the numbers of each stream's chunks, by its name
	written []byte
	left    int // bytes that may still be written until the store stops
}

// New makes a store (P6).
func New(c api.Config) (*Store, api.Errno) {
	if !cut.Allowed(c) {
		return nil, api.ErrConfig
	}
	return &Store{
		config:  c,
		cutter:  cut.By(c),
		shelf:   shelf.New(),
		streams: map[string][]int{},
		written: frame.Append(nil, record.Head(c)),
		left:    math.MaxInt,
	}, api.OK
}

// down tells whether the store keeps nothing. One that has stopped has no shelf
// left, and one that was never made (a Store{}) is taken as none at all.
func (s *Store) down() bool { return s == nil || s.shelf == nil }

// Bytes tells what the store is written as (P8).
func (s *Store) Bytes() string {
	if s == nil {
		return ""
	}
	return string(s.written)
}

// Config tells how the store cuts (P8).
func (s *Store) Config() api.Config {
	if s == nil {
		return api.Config{}
	}
	return s.config
}

// Restore gives a stream back (P10).
func (s *Store) Restore(name string) (string, api.Errno) {
	if s.down() {
		return "", api.ErrDown
	}
	numbers, there := s.streams[name]
	if !there {
		return "", api.ErrNone
	}
	return s.join(numbers), api.OK
}

// join makes a stream of the chunks with these numbers.
func (s *Store) join(numbers []int) string {
	var data []byte
	for _, n := range numbers {
		data = append(data, s.shelf.At(n)...)
	}
	return string(data)
}

// List tells the streams' names (P10).
func (s *Store) List() []string {
	if s.down() {
		return nil
	}
	names := slices.Sorted(maps.Keys(s.streams))
	for i, name := range names {
		names[i] = strings.Clone(name)
	}
	return names
}

// Chunks tells how many chunks are kept (P10).
func (s *Store) Chunks() int {
	if s.down() {
		return 0
	}
	return s.shelf.Count()
}
