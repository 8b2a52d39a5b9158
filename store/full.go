package store

import (
	"rollback/game"
	"rollback/ring"
)

// full keeps each state whole.
type full struct {
	past
	states ring.Ring[game.Memory]
}

func newFull(shared past, window int) *full {
	return &full{past: shared, states: ring.New[game.Memory](window)}
}

// Play plays the next frame.
func (s *full) Play(in game.Inputs) {
	s.states.Put(s.frame, s.now)
	s.step(in)
}

// State gives the memory at a frame; the present one has no place in the ring.
func (s *full) State(frame int) game.Memory {
	if frame == s.frame {
		return s.now
	}
	return s.states.At(frame)
}

// Back goes back to the state at a frame.
func (s *full) Back(frame int) {
	s.now = s.State(frame)
	s.frame = frame
}
