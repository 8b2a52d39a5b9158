package rollback_test

import (
	"bytes"
	"fmt"
	"math/rand"
	"sort"
	"testing"

	"rollback/api"
	"rollback/rollback"
)

// modelNet is the document's peers and network once more: it keeps what is known, and plays each state from the beginning.
type modelNet struct {
	c       api.Config
	now     int
	sent    int
	peers   []*modelPeer
	flights []api.Flight // as sent
}

type modelPeer struct {
	api.Peer
	inputs [4][]byte
	acked  [4]int
}

func newModelNet(c api.Config) *modelNet {
	n := &modelNet{c: c}
	for range c.Players {
		x := &modelPeer{}
		for q := range c.Players {
			x.inputs[q] = make([]byte, c.Delay)
			x.acked[q] = c.Delay
		}
		n.peers = append(n.peers, x)
	}
	return n
}

func (n *modelNet) stand(p int) api.Peer {
	x := n.peers[p]
	s := x.Peer
	s.Confirmed = s.Frame
	for q := range n.c.Players {
		s.Known[q] = len(x.inputs[q])
		s.Confirmed = min(s.Confirmed, s.Known[q])
	}
	return s
}

func (n *modelNet) send(p, q int) {
	lag := 1
	if len(n.c.Lags) > 0 {
		lag = n.c.Lags[n.sent%len(n.c.Lags)]
	}
	n.sent++
	if lag == -1 {
		return
	}
	x := n.peers[p]
	in := x.inputs[p][x.acked[q]:]
	if len(in) > 64 {
		in = in[:64]
	}
	b := modelPacket(api.Packet{From: p, Start: x.acked[q], Ack: len(x.inputs[q]), Inputs: in})
	n.flights = append(n.flights, api.Flight{To: q, Due: n.now + lag, Bytes: b})
}

func (n *modelNet) advance(p int, input byte) error {
	if p < 0 || p >= n.c.Players {
		return api.ErrPlayer
	}
	s := n.stand(p)
	if s.Frame == 200 {
		return &api.PeerError{Peer: p, Kind: api.ErrEnd}
	}
	if s.Frame-s.Confirmed == n.c.Window {
		return &api.PeerError{Peer: p, Kind: api.ErrStall}
	}
	x := n.peers[p]
	x.inputs[p] = append(x.inputs[p], input)
	x.Frame++
	for q := range n.c.Players {
		if q != p {
			n.send(p, q)
		}
	}
	return nil
}

func (n *modelNet) take(p int, b []byte) bool {
	x := n.peers[p]
	m, err := rollback.Unpack(b)
	if err != nil || m.From == p || m.From >= n.c.Players || m.Start > len(x.inputs[m.From]) || m.Start+len(m.Inputs) > 200+n.c.Delay || m.Ack > len(x.inputs[p]) {
		x.Dropped++
		return false
	}
	for i, input := range m.Inputs {
		if m.Start+i == len(x.inputs[m.From]) {
			x.inputs[m.From] = append(x.inputs[m.From], input)
		}
	}
	if m.Ack > x.acked[m.From] {
		x.acked[m.From] = m.Ack
	}
	return true
}

func (n *modelNet) hand(p int, b []byte) error {
	if p < 0 || p >= n.c.Players {
		return api.ErrPlayer
	}
	if !n.take(p, b) {
		return &api.PeerError{Peer: p, Kind: api.ErrPacket}
	}
	return nil
}

func (n *modelNet) inOrder() []api.Flight {
	l := append([]api.Flight(nil), n.flights...)
	sort.SliceStable(l, func(i, j int) bool { return l[i].Due < l[j].Due })
	return l
}

func (n *modelNet) tick() {
	n.now++
	for _, f := range n.inOrder() {
		if f.Due <= n.now {
			n.take(f.To, f.Bytes)
		}
	}
	var later []api.Flight
	for _, f := range n.flights {
		if f.Due > n.now {
			later = append(later, f)
		}
	}
	n.flights = later
	for p, x := range n.peers {
		for q := range n.peers {
			if q != p && x.acked[q] < len(x.inputs[p]) {
				n.send(p, q)
			}
		}
	}
}

// states gives a peer's states at frames 0 to its own.
func (n *modelNet) states(p int) []*modelGame {
	x := n.peers[p]
	g := newModelGame(n.c.Players)
	all := []*modelGame{g.copied()}
	for f := range x.Frame {
		for q := range n.c.Players {
			input := byte(0)
			if f < len(x.inputs[q]) {
				input = x.inputs[q][f]
			} else if len(x.inputs[q]) > 0 {
				input = x.inputs[q][len(x.inputs[q])-1]
			}
			g.act(q, input)
		}
		all = append(all, g.copied())
	}
	return all
}

func (g *modelGame) copied() *modelGame {
	return &modelGame{cells: g.cells, ships: append([]shipWant(nil), g.ships...)}
}

// told writes an error out whole: its type, its peer, its kind.
func told(err error) string { return fmt.Sprintf("%T %+v", err, err) }

func flightsTold(l []api.Flight) string {
	s := ""
	for _, f := range l {
		s += fmt.Sprintf("to %d at %d: %x\n", f.To, f.Due, f.Bytes)
	}
	return s
}

// checkNet holds all that a net tells against the model.
func checkNet(t *testing.T, n *rollback.Net, model *modelNet, sums bool) {
	t.Helper()
	if n.Now() != model.now {
		t.Fatalf("P10: Now = %d, want %d", n.Now(), model.now)
	}
	if got, want := flightsTold(n.Flights()), flightsTold(model.inOrder()); got != want {
		t.Fatalf("P8, P10: under way:\n%swant:\n%s", got, want)
	}
	for p := range model.peers {
		if got, err := n.Peer(p); err != nil || got != model.stand(p) {
			t.Fatalf("P11: Peer(%d) = %+v, %v, want %+v", p, got, err, model.stand(p))
		}
		states := model.states(p)
		if got, err := n.Memory(p); err != nil || !bytes.Equal(got, states[len(states)-1].memory()) {
			t.Fatalf("P7, P11: Memory(%d) at frame %d: %v", p, len(states)-1, err)
		}
		if sums {
			checkSums(t, n, p, states, model.c.Window)
		}
	}
}

func checkSums(t *testing.T, n *rollback.Net, p int, states []*modelGame, window int) {
	t.Helper()
	frame := len(states) - 1
	for f := min(-1, frame-window-2); f <= frame+2; f++ {
		var sum uint32
		var err error = &api.PeerError{Peer: p, Kind: api.ErrFrame}
		if f >= 0 && f <= frame && f >= frame-window {
			sum, err = modelDigest(states[f].memory(), 0, 32), nil
		}
		if got, fault := n.Sum(p, f); got != sum || told(fault) != told(err) {
			t.Fatalf("P11: Sum(%d, %d) at frame %d = %d, %v, want %d, %v", p, f, frame, got, fault, sum, err)
		}
	}
}

func randomConfig(r *rand.Rand) api.Config {
	c := api.Config{Players: 2 + r.Intn(3), Window: 1 + r.Intn(8), Delay: r.Intn(4), Store: api.Store(r.Intn(2))}
	for range r.Intn(9) {
		c.Lags = append(c.Lags, []int{-1, 0, 1, 2, 3, r.Intn(22) - 1}[r.Intn(6)])
	}
	return c
}

// randomPacket gives bytes that a peer may take: some as they are under way, some made up near the bounds, some spoilt.
func randomPacket(r *rand.Rand, model *modelNet, p int) []byte {
	if len(model.flights) > 0 && r.Intn(4) == 0 {
		return model.flights[r.Intn(len(model.flights))].Bytes
	}
	x := model.peers[p]
	from := r.Intn(4)
	start := max(0, len(x.inputs[from])+[]int{0, 0, 0, -1, -2, 1, -r.Intn(9)}[r.Intn(7)])
	ack := max(0, len(x.inputs[p])+[]int{0, -1, -2, 1, -r.Intn(9)}[r.Intn(5)])
	in := make([]byte, []int{0, 1, 2, 3, r.Intn(65), max(0, min(64, 200+model.c.Delay-start+r.Intn(2)))}[r.Intn(6)])
	r.Read(in)
	b := modelPacket(api.Packet{From: from, Start: start, Ack: ack, Inputs: in})
	if r.Intn(8) == 0 {
		b[r.Intn(len(b))] ^= 1 << r.Intn(8)
	}
	return b
}

// step does one thing to a net and to the model.
func step(t *testing.T, r *rand.Rand, n *rollback.Net, model *modelNet, ticks, hands int) {
	t.Helper()
	p := r.Intn(model.c.Players)
	if r.Intn(30) == 0 {
		p = r.Intn(12) - 4
	}
	switch x := r.Intn(100); {
	case x < ticks:
		n.Tick()
		model.tick()
	case x < ticks+hands && p >= 0 && p < model.c.Players:
		b := randomPacket(r, model, p)
		if got, want := told(n.Hand(p, bytes.Clone(b))), told(model.hand(p, b)); got != want {
			t.Fatalf("P9: Hand(%d, %x): %s, want %s", p, b, got, want)
		}
	default:
		input := byte(r.Intn(256))
		if got, want := told(n.Advance(p, input)), told(model.advance(p, input)); got != want {
			t.Fatalf("P8: Advance(%d, %d): %s, want %s", p, input, got, want)
		}
	}
}

func TestNetsLikeTheModel(t *testing.T) {
	r := rand.New(rand.NewSource(11))
	for i := range 300 {
		c := randomConfig(r)
		n, model := opened(t, c), newModelNet(c)
		ticks, hands := 5+r.Intn(50), []int{0, 5, 30}[i%3]
		for range 120 {
			step(t, r, n, model, ticks, hands)
			checkNet(t, n, model, r.Intn(8) == 0)
		}
	}
}

// Whole games, to their end: those that lose all packets go on by what is handed.
func TestWholeGamesLikeTheModel(t *testing.T) {
	r := rand.New(rand.NewSource(12))
	for i := range 24 {
		c := randomConfig(r)
		c.Lags = [][]int{nil, {0}, {0, 1}, {2, 0, -1}, {-1}, {1, -1, -1, 4}}[i%6]
		n, model := opened(t, c), newModelNet(c)
		for s := range 3000 {
			step(t, r, n, model, 25, 6)
			if s%50 == 0 {
				checkNet(t, n, model, true)
			}
		}
		checkNet(t, n, model, true)
	}
}

// One script over both stores: what the nets tell is the same to the letter.
func TestStoresTellTheSame(t *testing.T) {
	for seed := range int64(60) {
		r, same := rand.New(rand.NewSource(seed)), rand.New(rand.NewSource(seed))
		c, d := randomConfig(r), randomConfig(same)
		c.Store, d.Store = api.Full, api.Delta
		full, delta := opened(t, c), opened(t, d)
		model, other := newModelNet(c), newModelNet(d)
		for range 150 {
			step(t, r, full, model, 20, 15)
			step(t, same, delta, other, 20, 15)
			if whole(full) != whole(delta) {
				t.Fatalf("P6: script %d tells which store a net has", seed)
			}
		}
	}
}
