// Package store: the states of a peer's last frames, kept so that it can go back to them.
package store

import (
	"rollback/api"
	"rollback/game"
	"rollback/ring"
)

// Store plays a game and can go back in it, by as many frames as it was made for.
type Store interface {
	// Frame is how many frames are played.
	Frame() int
	// Played gives the inputs with which one of the last frames was played.
	Played(frame int) game.Inputs
	// State gives the memory ahead of one of the last frames, or behind the last.
	State(frame int) game.Memory
	// Play plays the next frame.
	Play(in game.Inputs)
	// Back goes back to where no frame from this one on was played.
	Back(frame int)
}

// New gives a store at the beginning of a game, which can go back by window frames.
func New(kind api.Store, players, window int) Store {
	shared := past{
		players: players,
		now:     game.Start(players),
		played:  ring.New[game.Inputs](window),
	}
	if kind == api.Delta {
		return newDelta(shared, window)
	}
	return newFull(shared, window)
}

// past is what the stores share: the game as it stands, and how it came there.
type past struct {
	players int
	frame   int
	now     game.Memory
	played  ring.Ring[game.Inputs]
}

// Frame is how many frames are played.
func (p *past) Frame() int { return p.frame }

// Played gives the inputs with which one of the last frames was played.
func (p *past) Played(frame int) game.Inputs { return p.played.At(frame) }

func (p *past) step(in game.Inputs) {
	p.played.Put(p.frame, in)
	p.now = p.now.Next(in[:p.players])
	p.frame++
}
