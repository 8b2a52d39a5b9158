// Package rollback: a game over a slow network: see DOC.md.
package rollback

import (
	"errors"

	"rollback/api"
	"rollback/game"
	"rollback/packet"
)

const minPlayers = 2

// Play plays a game from its beginning (P3).
func Play(players int, inputs [][]byte) ([]byte, error) {
	if players < minPlayers || players > api.MaxPlayers {
		return nil, api.ErrPlayer
	}
	if !playable(players, inputs) {
		return nil, api.ErrInputs
	}
	m := game.Start(players)
	for _, frame := range inputs {
		m = m.Next(frame)
	}
	return m.Bytes(), nil
}

func playable(players int, inputs [][]byte) bool {
	if len(inputs) > api.MaxFrames {
		return false
	}
	for _, frame := range inputs {
		if len(frame) != players {
			return false
		}
	}
	return true
}

// Digest sums a game's memory up (P4).
func Digest(memory []byte) (uint32, error) {
	m, ok := game.Read(memory)
	if !ok {
		return 0, api.ErrMemory
	}
	return m.Digest(), nil
}

// Pack writes a packet (P5).
func Pack(p api.Packet) ([]byte, error) {
	b, err := packet.Write(p)
	return b, kindOf(err)
}

// Unpack reads a packet (P5).
func Unpack(b []byte) (api.Packet, error) {
	p, err := packet.Read(b)
	return p, kindOf(err)
}

// kindOf takes the bare kind out of an error: a caller may compare what a call answers by ==.
func kindOf(err error) error {
	var kind api.Kind
	if errors.As(err, &kind) {
		return kind
	}
	return err
}

// Net is peers that play, and packets under way.
type Net struct{}

// New makes one (P6).
func New(c api.Config) (*Net, error) { return &Net{}, nil }

// Advance lets a peer go on by a frame, with its player's input (P8).
func (n *Net) Advance(p int, input byte) error { return nil }

// Tick lets time pass (P10).
func (n *Net) Tick() {}

// Hand hands a peer a packet (P9).
func (n *Net) Hand(p int, b []byte) error { return nil }

// Memory tells the game as a peer sees it (P11).
func (n *Net) Memory(p int) ([]byte, error) { return nil, nil }

// Peer tells how a peer stands (P11).
func (n *Net) Peer(p int) (api.Peer, error) { return api.Peer{}, nil }

// Sum tells the sum of a state that a peer still has (P11).
func (n *Net) Sum(p int, frame int) (uint32, error) { return 0, nil }

// Flights tells the packets under way (P10).
func (n *Net) Flights() []api.Flight { return nil }

// Now tells the time (P10).
func (n *Net) Now() int { return 0 }
