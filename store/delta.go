package store

import (
	"rollback/game"
	"rollback/ring"
)

// pages has, by their numbers, the pages that a frame wrote, as they were ahead of it.
type pages map[int]game.Page

// delta keeps of each state only the pages that differ from those of the state behind its frame; all others the two share.
// There is a place more than the window needs: that of the frame to come is always empty.
type delta struct {
	past
	written ring.Ring[pages]
}

func newDelta(shared past, window int) *delta {
	s := &delta{past: shared, written: ring.New[pages](window + 1)}
	for place := range window + 1 {
		s.written.Put(place, pages{})
	}
	return s
}

// Play plays the next frame.
func (s *delta) Play(in game.Inputs) {
	before, written := s.now, s.written.At(s.frame)
	s.step(in)
	for i, page := range before {
		if page != s.now[i] {
			written[i] = page
		}
	}
	clear(s.written.At(s.frame))
}

// State gives the memory at a frame: the present one, with what was written since put back, the latest first.
func (s *delta) State(frame int) game.Memory {
	m := s.now
	for f := s.frame - 1; f >= frame; f-- {
		for i, page := range s.written.At(f) {
			m[i] = page
		}
	}
	return m
}

// Back goes back to the state at a frame; what was written since was never written then.
func (s *delta) Back(frame int) {
	s.now = s.State(frame)
	for s.frame > frame {
		s.frame--
		clear(s.written.At(s.frame))
	}
}
