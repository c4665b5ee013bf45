package larder

import "larder/api"

// Stop lets the store stop when so many bytes more have been written (P11).
func (s *Store) Stop(after int) api.Errno {
	if s.down() {
		return api.ErrDown
	}
	s.left = max(after, 0)
	return api.OK
}

// write puts frames at the end, or as much of them as may still be written: then
// the store stops.
func (s *Store) write(frames []byte) api.Errno {
	n := min(len(frames), s.left)
	s.written = append(s.written, frames[:n]...)
	s.left -= n
	if n == len(frames) {
		return api.OK
	}
	// All that a store which has stopped goes on telling.
	*s = Store{config: s.config, written: s.written}
	return api.ErrDown
}
