// Package rollback: a game over a slow network: see DOC.md.
package rollback

import (
	"errors"

	"rollback/api"
	"rollback/game"
	"rollback/packet"
)

const minPlayers = 2

// canPlay tells whether a game can have so many players.
func canPlay(players int) bool {
	return players >= minPlayers && players <= api.MaxPlayers
}

// Play plays a game from its beginning (P3).
func Play(players int, inputs [][]byte) ([]byte, error) {
	if !canPlay(players) {
		return nil, api.ErrPlayer
	}
	if !playable(players, inputs) {
		return nil, api.ErrInputs
	}
	m := game.Start(players)
	for _, frame := range inputs {
		m = m.Next(frame)
	}
	return m.Bytes(), nil
}

func playable(players int, inputs [][]byte) bool {
	if len(inputs) > api.MaxFrames {
		return false
	}
	for _, frame := range inputs {
		if len(frame) != players {
			return false
		}
	}
	return true
}

// Digest sums a game's memory up (P4).
func Digest(memory []byte) (uint32, error) {
	m, ok := game.Read(memory)
	if !ok {
		return 0, api.ErrMemory
	}
	return m.Digest(), nil
}

// Pack writes a packet (P5).
func Pack(p api.Packet) ([]byte, error) {
	b, err := packet.Write(p)
	return b, kindOf(err)
}

// Unpack reads a packet (P5).
func Unpack(b []byte) (api.Packet, error) {
	p, err := packet.Read(b)
	return p, kindOf(err)
}

// kindOf takes the bare kind out of an error: a caller may compare what a call answers by ==.
func kindOf(err error) error {
	var kind api.Kind
	if errors.As(err, &kind) {
		return kind
	}
	return err
}
