package game

import "rollback/api"

// Inputs is one for each player that a frame can have, as a value; 0 for who does not play.
type Inputs [api.MaxPlayers]byte

// Next gives the memory behind one more frame; inputs has one for each player.
func (m Memory) Next(inputs []byte) Memory {
turns:
	for k, input := range inputs {
		s := m.ship(k).turned(input)
		target := s.target(input)
		for other := range inputs {
			if other != k && m.ship(other).place == target {
				m.settle(k, s, input)
				continue turns
			}
		}
		s.place = target
		m.settle(k, s, input)
	}
	return m
}

// settle ends a ship's turn where it stands: a ship that could not go paints too.
func (m *Memory) settle(k int, s ship, input byte) {
	cell, number := m.cell(s.place), byte(k+1)
	if input&paintBit != 0 && *cell != number {
		*cell = number
		s.score++
	}
	m.putShip(k, s)
}
