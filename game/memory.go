// Package game: the field, its ships, and how a frame changes them.
package game

import "rollback/api"

const (
	firstShip = api.Side * api.Side // the ships' bytes come behind the cells
	shipSize  = 8
)

// Page is a piece of a game's memory; a row of the field is just one page.
type Page [api.PageSize]byte

// Memory is a whole game as a value: to assign it is to copy it.
type Memory [api.Pages]Page

// Start gives the memory of a game ahead of its first frame.
func Start(players int) Memory {
	var m Memory
	for k := range players {
		m.putShip(k, ship{place: complex(float64(4*k+2), api.Side/2), heading: east})
	}
	return m
}

// Read takes a memory from bytes; false, if they are not as many as a memory has.
func Read(b []byte) (Memory, bool) {
	var m Memory
	if len(b) != api.Memory {
		return m, false
	}
	for i := range m {
		copy(m[i][:], b[i*api.PageSize:])
	}
	return m, true
}

// Bytes gives the memory as bytes of the caller's own.
func (m Memory) Bytes() []byte {
	b := make([]byte, 0, api.Memory)
	for _, page := range m {
		b = append(b, page[:]...)
	}
	return b
}

func (m *Memory) cell(place complex128) *byte {
	return &m[int(imag(place))][int(real(place))]
}

// shipBytes relies on a page's size being a multiple of a ship's: no ship lies across two pages.
func (m *Memory) shipBytes(k int) []byte {
	at := firstShip + k*shipSize
	return m[at/api.PageSize][at%api.PageSize:][:shipSize]
}
