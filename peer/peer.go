// Package peer: one of those who play: what it knows, what it guesses, and how it goes back.
package peer

import (
	"rollback/api"
	"rollback/game"
	"rollback/packet"
	"rollback/store"
)

// Peer has the whole game, and goes on in it with inputs of which it knows some and guesses the others.
type Peer struct {
	number  int
	players int
	window  int
	delay   int
	dropped int
	known   [api.MaxPlayers][]byte // of each player its first inputs
	acked   [api.MaxPlayers]int    // how many of its own each other knows, as far as it was told
	states  store.Store
}

// New gives a peer at frame 0; c is a config that a net can have.
func New(number int, c api.Config) *Peer {
	p := &Peer{
		number:  number,
		players: c.Players,
		window:  c.Window,
		delay:   c.Delay,
		states:  store.New(c.Store, c.Players, c.Window),
	}
	for q := range c.Players {
		p.known[q] = make([]byte, c.Delay)
		p.acked[q] = c.Delay
	}
	return p
}

// Advance goes on by a frame; input is the next of the peer's own.
func (p *Peer) Advance(input byte) error {
	frame := p.states.Frame()
	switch {
	case frame == api.MaxFrames:
		return p.fault(api.ErrEnd)
	case frame-p.confirmed() == p.window:
		return p.fault(api.ErrStall)
	}
	p.known[p.number] = append(p.known[p.number], input)
	p.states.Play(p.inputs(frame))
	return nil
}

func (p *Peer) fault(kind api.Kind) error {
	return &api.PeerError{Peer: p.number, Kind: kind}
}

func (p *Peer) confirmed() int {
	least := p.states.Frame()
	for q := range p.players {
		least = min(least, len(p.known[q]))
	}
	return least
}

// inputs gives what the peer has for a frame, as far as it knows now.
func (p *Peer) inputs(frame int) game.Inputs {
	var in game.Inputs
	for q := range p.players {
		if known := len(p.known[q]); known > 0 {
			in[q] = p.known[q][min(frame, known-1)]
		}
	}
	return in
}

// Take takes a packet, or refuses it.
func (p *Peer) Take(b []byte) error {
	m, err := packet.Read(b)
	if err != nil || p.refuses(m) {
		p.dropped++
		return p.fault(api.ErrPacket)
	}
	guessed := p.confirmed()
	p.learn(m)
	p.mend(guessed)
	return nil
}

func (p *Peer) refuses(m api.Packet) bool {
	return m.From == p.number || m.From >= p.players ||
		m.Start > len(p.known[m.From]) ||
		m.Start+len(m.Inputs) > api.MaxFrames+p.delay ||
		m.Ack > len(p.known[p.number])
}

func (p *Peer) learn(m api.Packet) {
	known := len(p.known[m.From]) - m.Start
	if known < len(m.Inputs) {
		p.known[m.From] = append(p.known[m.From], m.Inputs[known:]...)
	}
	p.acked[m.From] = max(p.acked[m.From], m.Ack)
}

// mend looks for the first frame, from that one on, that was played with other inputs than are known now, and plays anew from there.
func (p *Peer) mend(from int) {
	end := p.states.Frame()
	for f := from; f < end; f++ {
		if p.states.Played(f) != p.inputs(f) {
			p.states.Back(f)
			break
		}
	}
	for f := p.states.Frame(); f < end; f++ {
		p.states.Play(p.inputs(f))
	}
}

// Owes tells whether another peer has not acknowledged all of this one's inputs.
func (p *Peer) Owes(to int) bool {
	return p.acked[to] < len(p.known[p.number])
}

// Packet gives the bytes that the peer sends to another. No error can be: what a peer knows is never too much for a packet.
func (p *Peer) Packet(to int) []byte {
	start := p.acked[to]
	rest := p.known[p.number][start:]
	b, _ := packet.Write(api.Packet{
		From:   p.number,
		Start:  start,
		Ack:    len(p.known[to]),
		Inputs: rest[:min(len(rest), api.MaxBatch)],
	})
	return b
}

// Memory gives the state at the peer's frame.
func (p *Peer) Memory() []byte {
	return p.states.State(p.states.Frame()).Bytes()
}

// Stands tells how the peer stands.
func (p *Peer) Stands() api.Peer {
	s := api.Peer{Frame: p.states.Frame(), Confirmed: p.confirmed(), Dropped: p.dropped}
	for q := range p.players {
		s.Known[q] = len(p.known[q])
	}
	return s
}

// Sum gives the digest of a state that the peer still has.
func (p *Peer) Sum(frame int) (uint32, error) {
	present := p.states.Frame()
	if frame < 0 || frame > present || frame < present-p.window {
		return 0, p.fault(api.ErrFrame)
	}
	return p.states.State(frame).Digest(), nil
}
