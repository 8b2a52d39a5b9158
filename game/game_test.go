package game

import (
	"bytes"
	"testing"

	"rollback/api"
)

func TestStartAndBytes(t *testing.T) {
	for players := 2; players <= api.MaxPlayers; players++ {
		want := make([]byte, api.Memory)
		for k := range players {
			want[256+8*k], want[257+8*k] = byte(4*k+2), 8
		}
		if got := Start(players).Bytes(); !bytes.Equal(got, want) {
			t.Errorf("P3: Start(%d) = %v", players, got)
		}
	}
}

func TestReadIsBytesBackward(t *testing.T) {
	b := make([]byte, api.Memory)
	for i := range b {
		b[i] = byte(i*5 + i/256)
	}
	m, ok := Read(b)
	if !ok || !bytes.Equal(m.Bytes(), b) {
		t.Errorf("P4: Read = %v, %v", m, ok)
	}
	b[0]++
	if m[0][0] == b[0] {
		t.Errorf("P2: Read keeps the bytes it was handed")
	}
	for _, n := range []int{0, api.Memory - 1, api.Memory + 1} {
		if _, ok := Read(make([]byte, n)); ok {
			t.Errorf("P4: Read takes %d bytes", n)
		}
	}
}

func TestNextLeavesItsMemoryAsItWas(t *testing.T) {
	m := Start(2)
	if next := m.Next([]byte{4, 5}); next == m || m != Start(2) {
		t.Errorf("P3: Next changed the memory that it goes on from")
	}
}

// No game is long enough for a score of more than a byte, so it is set here.
func TestScoreOfTwoBytes(t *testing.T) {
	for _, c := range []struct {
		score uint16
		want  [2]byte
	}{{254, [2]byte{0, 255}}, {255, [2]byte{1, 0}}, {0x12ff, [2]byte{0x13, 0}}, {65534, [2]byte{255, 255}}, {65535, [2]byte{0, 0}}} {
		m := Start(2)
		s := m.ship(1)
		s.score = c.score
		m.putShip(1, s)
		b := m.Next([]byte{3, 7}).Bytes()
		if got := [2]byte(b[267:269]); got != c.want {
			t.Errorf("P3: a score of %d and one more: %v, want %v", c.score, got, c.want)
		}
	}
}

func TestHeadings(t *testing.T) {
	left := []complex128{1, 1i, -1, -1i}
	for n, h := range left {
		if headingOf(byte(n)) != h || numberOf(h) != byte(n) {
			t.Errorf("P3: heading %d is %v, number %d", n, headingOf(byte(n)), numberOf(h))
		}
		s := ship{heading: h}
		if got := s.turned(1).heading; got != left[(n+1)%4] {
			t.Errorf("P3: left of %v is %v", h, got)
		}
		if got := s.turned(2).heading; got != left[(n+3)%4] {
			t.Errorf("P3: right of %v is %v", h, got)
		}
	}
}
