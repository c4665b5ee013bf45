package larder

import (
	"strings"
	"sync"

	"larder/api"
	"larder/frame"
	"larder/record"
)

// Backup keeps a stream (P9).
func (s *Store) Backup(name string, data string) api.Errno {
	if e := s.refusal(name, data); e != api.OK {
		return e
	}
	return s.keep(name, data)
}

// refusal tells what speaks against keeping a stream, its room left aside.
func (s *Store) refusal(name, data string) api.Errno {
	if s.down() {
		return api.ErrDown
	}
	if !isName(name) {
		return api.ErrName
	}
	if _, there := s.streams[name]; there {
		return api.ErrThere
	}
	if len(data) > api.MaxData {
		return api.ErrBig
	}
	return api.OK
}

func isName(name string) bool {
	for i := range len(name) {
		if name[i] < 'a' || name[i] > 'z' {
			return false
		}
	}
	return 1 <= len(name) && len(name) <= api.MaxName
}

// keep begins by putting the new chunks on the shelf: only so is their room
// known. Whether it ends then or takes them back is settled at its own end.
func (s *Store) keep(name, data string) (e api.Errno) {
	had := s.shelf.Count()
	var numbers []int
	var frames []byte
	fits := false
	defer func() {
		if !fits {
			s.shelf.TakeBack(had)
			return
		}
		if e = s.write(frames); e == api.OK {
			s.streams[strings.Clone(name)] = numbers
		}
	}()
	for _, chunk := range s.cutter.Chunks(data) {
		numbers = append(numbers, s.shelf.Put(chunk))
	}
	frames = framesOf(s.shelf.From(had), name, numbers)
	fits = len(s.written)+len(frames) <= s.config.Room
	if !fits {
		return api.ErrFull
	}
	return api.OK
}

// framesOf tells the frames of new chunks and, behind them, of their stream.
func framesOf(chunks []string, name string, numbers []int) []byte {
	var frames []byte
	for _, r := range chunkRecords(chunks) {
		frames = frame.Append(frames, r)
	}
	return frame.Append(frames, record.Stream(name, numbers))
}

// chunkRecords packs chunks, each in a goroutine of its own.
func chunkRecords(chunks []string) []string {
	records := make([]string, len(chunks))
	var all sync.WaitGroup
	for i, chunk := range chunks {
		all.Go(func() { records[i] = record.Chunk(chunk) })
	}
	all.Wait()
	return records
}
