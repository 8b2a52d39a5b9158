package peer

import (
	"bytes"
	"testing"

	"rollback/api"
	"rollback/game"
	"rollback/packet"
	"rollback/store"
)

func pack(t *testing.T, p api.Packet) []byte {
	t.Helper()
	b, err := packet.Write(p)
	if err != nil {
		t.Fatalf("P5: Write(%+v): %v", p, err)
	}
	return b
}

func take(t *testing.T, p *Peer, m api.Packet) {
	t.Helper()
	if err := p.Take(pack(t, m)); err != nil {
		t.Fatalf("P9: Take(%+v): %v", m, err)
	}
}

func advance(t *testing.T, p *Peer, inputs ...byte) {
	t.Helper()
	for _, input := range inputs {
		if err := p.Advance(input); err != nil {
			t.Fatalf("P8: Advance(%d): %v", input, err)
		}
	}
}

func TestInputsOfAFrame(t *testing.T) {
	p := New(0, api.Config{Players: 4, Window: 8})
	take(t, p, api.Packet{From: 1, Inputs: []byte{7, 8, 9}})
	take(t, p, api.Packet{From: 3, Inputs: []byte{5}})
	advance(t, p, 1, 2)
	for f, want := range []game.Inputs{{1, 7, 0, 5}, {2, 8, 0, 5}, {2, 9, 0, 5}, {2, 9, 0, 5}} {
		if got := p.inputs(f); got != want {
			t.Errorf("P7: inputs at frame %d: %v, want %v", f, got, want)
		}
	}
}

func TestDelayIsKnownAndAcknowledged(t *testing.T) {
	for delay := range api.MaxDelay + 1 {
		p := New(1, api.Config{Players: 2, Window: 2, Delay: delay})
		if p.Owes(0) {
			t.Errorf("P7: with delay %d a new peer owes inputs", delay)
		}
		advance(t, p, 77)
		want := pack(t, api.Packet{From: 1, Start: delay, Ack: delay, Inputs: []byte{77}})
		if got := p.Packet(0); !p.Owes(0) || !bytes.Equal(got, want) {
			t.Errorf("P8: with delay %d: %v, want %v", delay, got, want)
		}
	}
}

// counting is a store that counts: what was guessed right is not played anew.
type counting struct {
	store.Store
	backs []int
	plays int
}

func (c *counting) Play(in game.Inputs) { c.plays++; c.Store.Play(in) }
func (c *counting) Back(frame int)      { c.backs = append(c.backs, frame); c.Store.Back(frame) }

func TestGoesBackOnlyToTheFirstWrongGuess(t *testing.T) {
	p := New(0, api.Config{Players: 2, Window: 8})
	c := &counting{Store: p.states}
	p.states = c
	take(t, p, api.Packet{From: 1, Inputs: []byte{4}})
	advance(t, p, 1, 2, 3, 4, 5)
	if c.plays != 5 || len(c.backs) != 0 {
		t.Fatalf("P7: %d plays, back to %v", c.plays, c.backs)
	}
	take(t, p, api.Packet{From: 1, Start: 1, Inputs: []byte{4, 4}}) // as guessed
	if c.plays != 5 || len(c.backs) != 0 {
		t.Errorf("P7: what was guessed right: %d plays, back to %v", c.plays, c.backs)
	}
	take(t, p, api.Packet{From: 1, Start: 2, Inputs: []byte{4, 4, 6}}) // the last one otherwise
	if c.plays != 6 || len(c.backs) != 1 || c.backs[0] != 4 {
		t.Errorf("P7: one wrong guess: %d plays, back to %v", c.plays, c.backs)
	}
}

func TestWhatIsHandedInIsNotKept(t *testing.T) {
	p := New(0, api.Config{Players: 2, Window: 4})
	b := pack(t, api.Packet{From: 1, Inputs: []byte{1, 2, 3}})
	if err := p.Take(b); err != nil {
		t.Fatal(err)
	}
	clear(b)
	if got := string(p.known[1]); got != "\x01\x02\x03" {
		t.Errorf("P2: known: %v", p.known[1])
	}
	advance(t, p, 9)
	clear(p.Packet(1))
	if p.known[0][0] != 9 {
		t.Errorf("P2: a packet's bytes are the peer's own")
	}
}
