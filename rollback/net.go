package rollback

import (
	"rollback/api"
	"rollback/peer"
	"rollback/wire"
)

// Net is peers that play, and packets under way.
type Net struct {
	peers []*peer.Peer
	wire  wire.Wire
}

// New makes one (P6).
func New(c api.Config) (*Net, error) {
	if !possible(c) {
		return nil, api.ErrConfig
	}
	n := &Net{wire: wire.New(c.Lags)}
	for p := range c.Players {
		n.peers = append(n.peers, peer.New(p, c))
	}
	return n, nil
}

// possible tells whether a net can be made so.
func possible(c api.Config) bool {
	return canPlay(c.Players) &&
		c.Window >= 1 && c.Window <= api.MaxWindow &&
		c.Delay >= 0 && c.Delay <= api.MaxDelay &&
		(c.Store == api.Full || c.Store == api.Delta) &&
		possibleLags(c.Lags)
}

func possibleLags(lags []int) bool {
	if len(lags) > api.MaxLags {
		return false
	}
	for _, lag := range lags {
		if lag < -1 || lag > api.MaxLag {
			return false
		}
	}
	return true
}

// peer gives a player's peer, or ErrPlayer; what is no net (nil) has none, so that no call on it panics.
func (n *Net) peer(p int) (*peer.Peer, error) {
	if n == nil || p < 0 || p >= len(n.peers) {
		return nil, api.ErrPlayer
	}
	return n.peers[p], nil
}

// Advance lets a peer go on by a frame, with its player's input (P8).
func (n *Net) Advance(p int, input byte) error {
	who, err := n.peer(p)
	if err != nil {
		return err
	}
	if err := who.Advance(input); err != nil {
		return err
	}
	for to := range n.peers {
		if to != p {
			n.wire.Send(to, who.Packet(to))
		}
	}
	return nil
}

// Tick lets time pass (P10).
func (n *Net) Tick() {
	if n == nil {
		return
	}
	n.wire.Pass()
	n.arrive()
	for p, who := range n.peers {
		for to := range n.peers {
			if to != p && who.Owes(to) {
				n.wire.Send(to, who.Packet(to))
			}
		}
	}
}

// arrive hands out what is due. What a peer refuses it counts itself: no one is there to be told.
func (n *Net) arrive() {
	for f, ok := n.wire.Come(); ok; f, ok = n.wire.Come() {
		n.peers[f.To].Take(f.Bytes)
	}
}

// Hand hands a peer a packet (P9).
func (n *Net) Hand(p int, b []byte) error {
	who, err := n.peer(p)
	if err != nil {
		return err
	}
	return who.Take(b)
}

// Memory tells the game as a peer sees it (P11).
func (n *Net) Memory(p int) ([]byte, error) {
	who, err := n.peer(p)
	if err != nil {
		return nil, err
	}
	return who.Memory(), nil
}

// Peer tells how a peer stands (P11).
func (n *Net) Peer(p int) (api.Peer, error) {
	who, err := n.peer(p)
	if err != nil {
		return api.Peer{}, err
	}
	return who.Stands(), nil
}

// Sum tells the sum of a state that a peer still has (P11).
func (n *Net) Sum(p int, frame int) (uint32, error) {
	who, err := n.peer(p)
	if err != nil {
		return 0, err
	}
	return who.Sum(frame)
}

// Flights tells the packets under way (P10).
func (n *Net) Flights() []api.Flight {
	if n == nil {
		return nil
	}
	return n.wire.Flights()
}

// Now tells the time (P10).
func (n *Net) Now() int {
	if n == nil {
		return 0
	}
	return n.wire.Now()
}
