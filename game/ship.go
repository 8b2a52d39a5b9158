package game

import "rollback/api"

// East is the real axis and north the imaginary one, so that a turn is a product.
const (
	east  = 1
	north = 1i
	west  = -1
	south = -1i

	leftTurn  = 1i
	rightTurn = -1i
)

// What an input's bits say.
const (
	moveBits = 3
	goLeft   = 1
	goRight  = 2
	stay     = 3
	paintBit = 4
)

type ship struct {
	place   complex128
	heading complex128
	score   uint16
}

func (m *Memory) ship(k int) ship {
	b := m.shipBytes(k)
	return ship{
		place:   complex(float64(b[0]), float64(b[1])),
		heading: headingOf(b[2]),
		score:   uint16(b[3])<<8 | uint16(b[4]),
	}
}

func (m *Memory) putShip(k int, s ship) {
	b := m.shipBytes(k)
	b[0] = byte(real(s.place))
	b[1] = byte(imag(s.place))
	b[2] = numberOf(s.heading)
	b[3] = byte(s.score >> 8)
	b[4] = byte(s.score)
}

func headingOf(number byte) complex128 {
	switch number {
	case 1:
		return north
	case 2:
		return west
	case 3:
		return south
	}
	return east
}

func numberOf(heading complex128) byte {
	switch heading {
	case north:
		return 1
	case west:
		return 2
	case south:
		return 3
	}
	return 0
}

func (s ship) turned(input byte) ship {
	switch input & moveBits {
	case goLeft:
		s.heading *= leftTurn
	case goRight:
		s.heading *= rightTurn
	}
	return s
}

// target is where the ship would stand if no other were in its way.
func (s ship) target(input byte) complex128 {
	if input&moveBits == stay {
		return s.place
	}
	next := s.place + s.heading
	return complex(wrapped(real(next)), wrapped(imag(next)))
}

// wrapped brings a step beyond an edge in at the other side.
func wrapped(v float64) float64 {
	return float64((int(v) + api.Side) % api.Side)
}
