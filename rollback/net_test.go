package rollback_test

import (
	"bytes"
	"errors"
	"fmt"
	"math"
	"math/rand"
	"slices"
	"testing"

	"rollback/api"
	"rollback/plain"
	"rollback/rollback"
)

func opened(t *testing.T, c api.Config) *rollback.Net {
	t.Helper()
	n, err := rollback.New(c)
	if n == nil || err != nil {
		t.Fatalf("P1, P6: New(%+v) = %v, %v", c, n, err)
	}
	return n
}

// eachStore runs a test over both stores.
func eachStore(t *testing.T, c api.Config, f func(t *testing.T, n *rollback.Net)) {
	for name, store := range map[string]api.Store{"Full": api.Full, "Delta": api.Delta} {
		c.Store = store
		t.Run(name, func(t *testing.T) { f(t, opened(t, c)) })
	}
}

func advanced(t *testing.T, n *rollback.Net, p int, inputs ...byte) {
	t.Helper()
	for _, input := range inputs {
		if err := n.Advance(p, input); err != nil {
			t.Fatalf("P8: Advance(%d, %d): %v", p, input, err)
		}
	}
}

func handed(t *testing.T, n *rollback.Net, p int, m api.Packet) {
	t.Helper()
	if err := n.Hand(p, packed(t, m)); err != nil {
		t.Fatalf("P9: Hand(%d, %+v): %v", p, m, err)
	}
}

// handedAll hands a peer many inputs of another, by as many packets as that takes.
func handedAll(t *testing.T, n *rollback.Net, p, from, start int, inputs []byte) {
	t.Helper()
	for len(inputs) > 0 {
		some := inputs[:min(len(inputs), api.MaxBatch)]
		handed(t, n, p, api.Packet{From: from, Start: start, Inputs: some})
		start += len(some)
		inputs = inputs[len(some):]
	}
}

func remembered(t *testing.T, n *rollback.Net, p int) []byte {
	t.Helper()
	m, err := n.Memory(p)
	if err != nil || len(m) != api.Memory {
		t.Fatalf("P11: Memory(%d) = %d bytes, %v", p, len(m), err)
	}
	return m
}

func stands(t *testing.T, n *rollback.Net, p int, want api.Peer) {
	t.Helper()
	if got, err := n.Peer(p); err != nil || got != want {
		t.Errorf("P11: Peer(%d) = %+v, %v, want %+v", p, got, err, want)
	}
}

func known(counts ...int) [api.MaxPlayers]int {
	var k [api.MaxPlayers]int
	copy(k[:], counts)
	return k
}

func ofPeer(p int, kind api.Kind) error { return &api.PeerError{Peer: p, Kind: kind} }

// isError wants just this error: the same type, the same peer, the same kind.
func isError(t *testing.T, what string, got, want error) {
	t.Helper()
	if told(got) != told(want) {
		t.Errorf("%s: %s, want %s", what, told(got), told(want))
	}
}

// whole tells all that a net tells.
func whole(n *rollback.Net) string {
	s := fmt.Sprintln(n.Now()) + flightsTold(n.Flights())
	for p := range api.MaxPlayers {
		x, err := n.Peer(p)
		m, _ := n.Memory(p)
		s += fmt.Sprintf("%+v %v %x\n", x, err, m)
		for f := x.Frame - api.MaxWindow; f <= x.Frame; f++ {
			sum, err := n.Sum(p, f)
			s += fmt.Sprintln(sum, err)
		}
	}
	return s
}

// way tells what is under way, short: to@due:from+start/ack[inputs].
func way(t *testing.T, n *rollback.Net) string {
	t.Helper()
	s := ""
	for _, f := range n.Flights() {
		p, err := rollback.Unpack(f.Bytes)
		if err != nil {
			t.Fatalf("P8: under way is %x: %v", f.Bytes, err)
		}
		s += fmt.Sprintf("%d@%d:%d+%d/%d%v ", f.To, f.Due, p.From, p.Start, p.Ack, p.Inputs)
	}
	return s
}

func underWay(t *testing.T, n *rollback.Net, want string) {
	t.Helper()
	if got := way(t, n); got != want {
		t.Errorf("P8, P10: under way: %q, want %q", got, want)
	}
}

func TestConfigAtItsBounds(t *testing.T) {
	good := api.Config{Players: 2, Window: 2}
	for _, field := range []struct {
		name     string
		set      func(c *api.Config, v int)
		from, to int
	}{
		{"Players", func(c *api.Config, v int) { c.Players = v }, 2, 4},
		{"Window", func(c *api.Config, v int) { c.Window = v }, 1, 8},
		{"Delay", func(c *api.Config, v int) { c.Delay = v }, 0, 3},
		{"Store", func(c *api.Config, v int) { c.Store = api.Store(v) }, 0, 1},
		{"the only lag", func(c *api.Config, v int) { c.Lags = []int{v} }, -1, 20},
		{"the first lag", func(c *api.Config, v int) { c.Lags = []int{v, 1, 2} }, -1, 20},
		{"the last of eight lags", func(c *api.Config, v int) { c.Lags = []int{1, 2, 3, 4, 5, 6, 7, v} }, -1, 20},
	} {
		for _, v := range []int{math.MinInt, -258, -256, -3, -2, -1, 0, 1, 2, 3, 4, 5, 7, 8, 9, 19, 20, 21, 255, 256, 258, 1 << 16, 1<<32 + 2, math.MaxInt} {
			c := good
			field.set(&c, v)
			if v >= field.from && v <= field.to {
				checkNet(t, opened(t, c), newModelNet(c), true)
				continue
			}
			n, err := rollback.New(c)
			if n != nil || err != error(api.ErrConfig) || !errors.Is(err, api.ErrConfig) {
				t.Errorf("P6: %s is %d: %v, %v, want ErrConfig", field.name, v, n, err)
			}
			if n, kind := plain.New(c); n != nil || kind != api.ErrConfig {
				t.Errorf("P6: %s is %d, asked by plain: %v, %v", field.name, v, n, kind)
			}
		}
	}
}

func TestConfigCountsItsLags(t *testing.T) {
	for count := range 40 {
		n, err := rollback.New(api.Config{Players: 2, Window: 2, Lags: make([]int, count)})
		if count <= api.MaxLags && (n == nil || err != nil) {
			t.Errorf("P6: %d lags: %v, %v", count, n, err)
		}
		if count > api.MaxLags && (n != nil || err != error(api.ErrConfig)) {
			t.Errorf("P6: %d lags: %v, %v, want ErrConfig", count, n, err)
		}
	}
}

// All configs at their bounds, each with each.
func TestNewNets(t *testing.T) {
	for players := 2; players <= 4; players++ {
		for window := 1; window <= 8; window++ {
			for delay := range 4 {
				for store := range 2 {
					c := api.Config{Players: players, Window: window, Delay: delay, Store: api.Store(store)}
					n := opened(t, c)
					var k [4]int
					for q := range players {
						k[q] = delay
					}
					for p := range players {
						stands(t, n, p, api.Peer{Known: k})
						if !bytes.Equal(remembered(t, n, p), played(t, players)) {
							t.Errorf("P6: the memory of peer %d of %+v is not that of a beginning", p, c)
						}
					}
					if n.Now() != 0 || len(n.Flights()) != 0 {
						t.Errorf("P6: a new net of %+v: time %d, %d under way", c, n.Now(), len(n.Flights()))
					}
				}
			}
		}
	}
}

// The document's fifth example.
func TestExampleOfPeers(t *testing.T) {
	eachStore(t, api.Config{Players: 2, Window: 2}, func(t *testing.T, n *rollback.Net) {
		advanced(t, n, 0, 4, 4)
		stands(t, n, 0, api.Peer{Frame: 2, Known: known(2, 0)})
		isError(t, "P8: Advance(0, 4)", n.Advance(0, 4), ofPeer(0, api.ErrStall))
		underWay(t, n, "1@1:0+0/0[4] 1@1:0+0/0[4 4] ")
		n.Tick()
		stands(t, n, 1, api.Peer{Known: known(2, 0)})
		advanced(t, n, 1, 3, 3)
		stands(t, n, 1, api.Peer{Frame: 2, Confirmed: 2, Known: known(2, 2)})
		if !bytes.Equal(remembered(t, n, 1), played(t, 2, []byte{4, 3}, []byte{4, 3})) {
			t.Errorf("P7: the state of peer 1 is not that of Play with [4 3] [4 3]")
		}
	})
}

// The document's sixth example, and beyond it.
func TestExampleOfDelay(t *testing.T) {
	eachStore(t, api.Config{Players: 2, Window: 2, Delay: 2}, func(t *testing.T, n *rollback.Net) {
		stands(t, n, 0, api.Peer{Known: known(2, 2)})
		advanced(t, n, 0, 4)
		stands(t, n, 0, api.Peer{Frame: 1, Confirmed: 1, Known: known(3, 2)})
		underWay(t, n, "1@1:0+2/2[4] ")
		advanced(t, n, 0, 3)
		if !bytes.Equal(remembered(t, n, 0), played(t, 2, []byte{0, 0}, []byte{0, 0})) {
			t.Errorf("P7: an input takes effect ahead of its frame")
		}
		advanced(t, n, 0, 3)
		if !bytes.Equal(remembered(t, n, 0), played(t, 2, []byte{0, 0}, []byte{0, 0}, []byte{4, 0})) {
			t.Errorf("P7: the third input does not take effect in frame 2")
		}
	})
}

func TestGuesses(t *testing.T) {
	eachStore(t, api.Config{Players: 4, Window: 8}, func(t *testing.T, n *rollback.Net) {
		handed(t, n, 2, api.Packet{From: 0, Inputs: []byte{5, 6}})
		handed(t, n, 2, api.Packet{From: 3, Inputs: []byte{1}})
		advanced(t, n, 2, 4, 5, 6, 7)
		// of player 0: 5 and 6 are known; of player 1 nothing; of player 3: 1
		want := [][]byte{{5, 0, 4, 1}, {6, 0, 5, 1}, {6, 0, 6, 1}, {6, 0, 7, 1}}
		if !bytes.Equal(remembered(t, n, 2), played(t, 4, want...)) {
			t.Errorf("P7: a guess is not the last one known, or 0")
		}
		stands(t, n, 2, api.Peer{Frame: 4, Known: known(2, 0, 4, 1)})
		// a late one: guesses behind it change too, known ones do not
		handed(t, n, 2, api.Packet{From: 1, Inputs: []byte{4, 6}})
		handed(t, n, 2, api.Packet{From: 3, Start: 1, Inputs: []byte{2}})
		want = [][]byte{{5, 4, 4, 1}, {6, 6, 5, 2}, {6, 6, 6, 2}, {6, 6, 7, 2}}
		for f := range 5 {
			if sum, err := n.Sum(2, f); err != nil || sum != digested(t, played(t, 4, want[:f]...)) {
				t.Errorf("P7: the state at %d is not where it would be, had it known all along (%v)", f, err)
			}
		}
		stands(t, n, 2, api.Peer{Frame: 4, Confirmed: 2, Known: known(2, 2, 4, 2)})
	})
}

// An input that comes when its frame is the oldest that may be wrong, for each window and delay.
func TestLateByAWholeWindow(t *testing.T) {
	for window := 1; window <= 8; window++ {
		for delay := range 4 {
			eachStore(t, api.Config{Players: 2, Window: window, Delay: delay}, func(t *testing.T, n *rollback.Net) {
				own := counted(window + delay)
				advanced(t, n, 0, own...)
				stands(t, n, 0, api.Peer{Frame: window + delay, Confirmed: delay, Known: known(window+2*delay, delay)})
				isError(t, "P8: Advance", n.Advance(0, 1), ofPeer(0, api.ErrStall))
				frames := repeated(window+delay, 0, 0)
				for f := range window {
					frames[f+delay] = []byte{own[f], 6}
				}
				handed(t, n, 0, api.Packet{From: 1, Start: delay, Inputs: []byte{6}})
				if !bytes.Equal(remembered(t, n, 0), played(t, 2, frames...)) {
					t.Errorf("P7: window %d, delay %d: not where it would be", window, delay)
				}
				stands(t, n, 0, api.Peer{Frame: window + delay, Confirmed: delay + 1, Known: known(window+2*delay, delay+1)})
				advanced(t, n, 0, 1)
				isError(t, "P8: Advance", n.Advance(0, 1), ofPeer(0, api.ErrStall))
			})
		}
	}
}

// Confirmed is never more than the frame, however much is known.
func TestConfirmedIsAtMostTheFrame(t *testing.T) {
	eachStore(t, api.Config{Players: 3, Window: 2}, func(t *testing.T, n *rollback.Net) {
		handed(t, n, 0, api.Packet{From: 1, Inputs: counted(9)})
		stands(t, n, 0, api.Peer{Known: known(0, 9, 0)})
		handed(t, n, 0, api.Packet{From: 2, Inputs: counted(1)})
		stands(t, n, 0, api.Peer{Known: known(0, 9, 1)})
		advanced(t, n, 0, 1)
		stands(t, n, 0, api.Peer{Frame: 1, Confirmed: 1, Known: known(1, 9, 1)})
		advanced(t, n, 0, 1, 1)
		stands(t, n, 0, api.Peer{Frame: 3, Confirmed: 1, Known: known(3, 9, 1)})
		isError(t, "P8: Advance", n.Advance(0, 1), ofPeer(0, api.ErrStall))
	})
}

func TestNoPlayersNumber(t *testing.T) {
	for players := 2; players <= 4; players++ {
		eachStore(t, api.Config{Players: players, Window: 2}, func(t *testing.T, n *rollback.Net) {
			advanced(t, n, 0, 4, 4)
			before := whole(n)
			good := packed(t, api.Packet{From: 1, Inputs: []byte{1}})
			for _, p := range []int{-1, players, players + 1, 4, 256, 1 << 32, 1<<32 + 1, math.MinInt, math.MaxInt} {
				m, err1 := n.Memory(p)
				x, err2 := n.Peer(p)
				s, err3 := n.Sum(p, 0)
				_, err4 := n.Sum(p, -1)
				for _, err := range []error{n.Advance(p, 4), n.Hand(p, good), n.Hand(p, nil), err1, err2, err3, err4} {
					if err != error(api.ErrPlayer) {
						t.Errorf("P8, P9, P11: of player %d of %d: %s, want ErrPlayer", p, players, told(err))
					}
				}
				if m != nil || x != (api.Peer{}) || s != 0 {
					t.Errorf("P1: of player %d of %d: %v, %v, %d", p, players, m, x, s)
				}
			}
			if whole(n) != before {
				t.Errorf("P1: an ErrPlayer changed something")
			}
		})
	}
}

func TestStallChangesNothing(t *testing.T) {
	eachStore(t, api.Config{Players: 2, Window: 1, Lags: []int{5, 6, 7}}, func(t *testing.T, n *rollback.Net) {
		advanced(t, n, 0, 4)
		before := whole(n)
		for range 4 {
			isError(t, "P8: Advance", n.Advance(0, 7), ofPeer(0, api.ErrStall))
		}
		if whole(n) != before {
			t.Errorf("P1, P8: a stall changed something")
		}
		advanced(t, n, 1, 5) // a stall takes no lag either
		underWay(t, n, "1@5:0+0/0[4] 0@6:1+0/0[5] ")
	})
}

func TestEndOfTheGame(t *testing.T) {
	for delay := range 4 {
		eachStore(t, api.Config{Players: 2, Window: 8, Delay: delay, Lags: []int{-1}}, func(t *testing.T, n *rollback.Net) {
			noughts := make([]byte, delay)
			own, theirs := append(noughts, counted(200)...), append(noughts, counted(201)[1:]...)
			handedAll(t, n, 0, 1, delay, theirs[delay:192])
			advanced(t, n, 0, own[delay:]...)
			stands(t, n, 0, api.Peer{Frame: 200, Confirmed: 192, Known: known(200+delay, 192)})
			before := whole(n)
			// it would stall, too: the end is named first
			isError(t, "P8: Advance", n.Advance(0, 1), ofPeer(0, api.ErrEnd))
			if whole(n) != before {
				t.Errorf("P1, P8: the end changed something")
			}
			handedAll(t, n, 0, 1, 192, theirs[192:])
			stands(t, n, 0, api.Peer{Frame: 200, Confirmed: 200, Known: known(200+delay, 200+delay)})
			isError(t, "P8: Advance", n.Advance(0, 1), ofPeer(0, api.ErrEnd))
			var frames [][]byte
			for f := range 200 {
				frames = append(frames, []byte{own[f], theirs[f]})
			}
			if !bytes.Equal(remembered(t, n, 0), played(t, 2, frames...)) {
				t.Errorf("P7: the memory at the end, with delay %d", delay)
			}
		})
	}
}

func TestStallAheadOfTheEnd(t *testing.T) {
	eachStore(t, api.Config{Players: 2, Window: 1, Lags: []int{-1}}, func(t *testing.T, n *rollback.Net) {
		handedAll(t, n, 0, 1, 0, counted(198))
		advanced(t, n, 0, counted(199)...)
		isError(t, "P8: Advance at frame 199", n.Advance(0, 1), ofPeer(0, api.ErrStall))
		handed(t, n, 0, api.Packet{From: 1, Start: 198, Inputs: []byte{1}})
		advanced(t, n, 0, 1)
		isError(t, "P8: Advance at frame 200", n.Advance(0, 1), ofPeer(0, api.ErrEnd))
	})
}

func TestSendsToEachOtherInOrder(t *testing.T) {
	n := opened(t, api.Config{Players: 4, Window: 3, Delay: 1})
	advanced(t, n, 2, 9)
	advanced(t, n, 0, 8)
	underWay(t, n, "0@1:2+1/1[9] 1@1:2+1/1[9] 3@1:2+1/1[9] 1@1:0+1/1[8] 2@1:0+1/1[8] 3@1:0+1/1[8] ")
	n = opened(t, api.Config{Players: 3, Window: 3})
	advanced(t, n, 1, 7)
	underWay(t, n, "0@1:1+0/0[7] 2@1:1+0/0[7] ")
}

func TestStartAndAckOfWhatIsSent(t *testing.T) {
	eachStore(t, api.Config{Players: 3, Window: 8, Delay: 1, Lags: []int{4}}, func(t *testing.T, n *rollback.Net) {
		handed(t, n, 0, api.Packet{From: 2, Start: 1, Inputs: []byte{5, 5, 5}})
		advanced(t, n, 0, 11, 12, 13)
		handed(t, n, 0, api.Packet{From: 1, Start: 1, Ack: 3, Inputs: []byte{5}})
		handed(t, n, 0, api.Packet{From: 2, Start: 2, Ack: 4})
		for range 8 { // twice the lag: what was sent ahead of the acknowledgements has come
			n.Tick()
		}
		for _, f := range n.Flights() {
			if f.To == 2 {
				t.Errorf("P10: peer 2 has acknowledged all: %v", f)
			}
		}
		advanced(t, n, 0, 14)
		l := n.Flights()
		last := l[len(l)-2:]
		p, _ := rollback.Unpack(last[0].Bytes)
		q, _ := rollback.Unpack(last[1].Bytes)
		if !samePacket(p, api.Packet{From: 0, Start: 3, Ack: 2, Inputs: []byte{13, 14}}) || last[0].To != 1 {
			t.Errorf("P8: sent to 1: %+v", p)
		}
		if !samePacket(q, api.Packet{From: 0, Start: 4, Ack: 4, Inputs: []byte{14}}) || last[1].To != 2 {
			t.Errorf("P8: sent to 2: %+v", q)
		}
	})
}

func TestAPacketHasAtMostMaxBatchInputs(t *testing.T) {
	eachStore(t, api.Config{Players: 2, Window: 8, Delay: 3}, func(t *testing.T, n *rollback.Net) {
		handedAll(t, n, 0, 1, 3, counted(150))
		own := counted(100)
		for i, input := range own {
			advanced(t, n, 0, input)
			l := n.Flights()
			p, err := rollback.Unpack(l[len(l)-1].Bytes)
			want := api.Packet{From: 0, Start: 3, Ack: 153, Inputs: own[:min(i+1, 64)]}
			if err != nil || !samePacket(p, want) {
				t.Fatalf("P8: the packet of frame %d is %+v, %v", i, p, err)
			}
		}
		handed(t, n, 0, api.Packet{From: 1, Start: 3, Ack: 13})
		advanced(t, n, 0, 200)
		l := n.Flights()
		p, err := rollback.Unpack(l[len(l)-1].Bytes)
		if want := (api.Packet{From: 0, Start: 13, Ack: 153, Inputs: own[10:74]}); err != nil || !samePacket(p, want) {
			t.Errorf("P8: behind an acknowledgement: %+v, %v, want %+v", p, err, want)
		}
	})
}

func TestLagsInTurnForTheWholeNet(t *testing.T) {
	n := opened(t, api.Config{Players: 3, Window: 8, Lags: []int{3, -1, 0, 2, 20}})
	advanced(t, n, 0, 1) // to 1: 3; to 2: lost
	advanced(t, n, 1, 2) // to 0: 0; to 2: 2
	advanced(t, n, 2, 3) // to 0: 20; to 1: 3 again
	underWay(t, n, "0@0:1+0/0[2] 2@2:1+0/0[2] 1@3:0+0/0[1] 1@3:2+0/0[3] 0@20:2+0/0[3] ")
	n.Tick() // sends again: 0 to 1: lost, 0 to 2: at once, 1 to 0: 2, 1 to 2: 20, 2 to 0: 3, 2 to 1: lost
	underWay(t, n, "2@1:0+0/0[1] 2@2:1+0/0[2] 1@3:0+0/0[1] 1@3:2+0/0[3] 0@3:1+0/0[2] 0@4:2+0/0[3] 0@20:2+0/0[3] 2@21:1+0/0[2] ")
}

func TestWithoutLagsItIsAlwaysOne(t *testing.T) {
	for _, lags := range [][]int{nil, {}} {
		n := opened(t, api.Config{Players: 2, Window: 8, Lags: lags})
		advanced(t, n, 0, 1, 2)
		underWay(t, n, "1@1:0+0/0[1] 1@1:0+0/0[1 2] ")
		n.Tick()
		underWay(t, n, "1@2:0+0/0[1 2] ")
	}
}

func TestAllIsLost(t *testing.T) {
	eachStore(t, api.Config{Players: 4, Window: 5, Lags: []int{-1, -1}}, func(t *testing.T, n *rollback.Net) {
		advanced(t, n, 3, 1, 2, 3, 4, 5)
		for range 50 {
			n.Tick()
		}
		underWay(t, n, "")
		stands(t, n, 0, api.Peer{})
		stands(t, n, 3, api.Peer{Frame: 5, Known: known(0, 0, 0, 5)})
		if n.Now() != 50 {
			t.Errorf("P10: Now = %d", n.Now())
		}
	})
}

// Each reason to refuse, and the packet just beside it.
func TestRefuses(t *testing.T) {
	config := api.Config{Players: 3, Window: 8, Delay: 2}
	prepare := func(t *testing.T, n *rollback.Net) {
		advanced(t, n, 1, 21, 22, 23)                                              // knows 5 of its own
		handed(t, n, 1, api.Packet{From: 0, Start: 2, Inputs: []byte{1, 2, 3, 4}}) // and 6 of 0
		handedAll(t, n, 1, 2, 2, counted(188))                                     // and 190 of 2
	}
	with := func(from, start, ack, inputs int) api.Packet {
		return api.Packet{From: from, Start: start, Ack: ack, Inputs: counted(inputs)}
	}
	for _, c := range []struct {
		name string
		p    api.Packet
		ok   bool
	}{
		{"from 0", with(0, 6, 5, 1), true},
		{"from itself", with(1, 5, 5, 1), false},
		{"from itself, with nothing", with(1, 0, 0, 0), false},
		{"from 2", with(2, 190, 5, 1), true},
		{"from who does not play", with(3, 0, 0, 0), false},
		{"from who does not play, with one", with(3, 0, 5, 1), false},
		{"a start that it knows", with(0, 6, 0, 2), true},
		{"a start that it knows, with nothing", with(0, 6, 0, 0), true},
		{"a start beyond", with(0, 7, 0, 2), false},
		{"a start beyond, with nothing", with(0, 7, 0, 0), false},
		{"a start far beyond", with(0, 65535, 0, 0), false},
		{"a start far beyond, with the most", with(2, 65535, 0, 64), false},
		{"a start within", with(0, 3, 0, 1), true},
		{"the start 0", with(0, 0, 0, 8), true},
		{"to the very end", with(2, 190, 0, 12), true},
		{"beyond the end by one", with(2, 190, 0, 13), false},
		{"beyond the end by many", with(2, 190, 0, 64), false},
		{"to the very end, from within", with(2, 180, 0, 22), true},
		{"beyond the end by one, from within", with(2, 180, 0, 23), false},
		{"to the very end, the most", with(2, 138, 0, 64), true},
		{"beyond the end, the most", with(2, 139, 0, 64), false},
		{"an ack of all", with(0, 6, 5, 0), true},
		{"an ack of more", with(0, 6, 6, 0), false},
		{"an ack of more, with one", with(0, 6, 6, 1), false},
		{"an ack of far more", with(0, 6, 65535, 1), false},
		{"an ack of nothing", with(0, 6, 0, 0), true},
	} {
		eachStore(t, config, func(t *testing.T, n *rollback.Net) {
			prepare(t, n)
			x, _ := n.Peer(1)
			err := n.Hand(1, packed(t, c.p))
			if c.ok {
				isError(t, "P9: "+c.name, err, nil)
				x.Known[c.p.From] = max(x.Known[c.p.From], c.p.Start+len(c.p.Inputs))
				x.Confirmed = min(x.Frame, x.Known[0], x.Known[1], x.Known[2])
				stands(t, n, 1, x)
				return
			}
			isError(t, "P9: "+c.name, err, ofPeer(1, api.ErrPacket))
			x.Dropped++
			stands(t, n, 1, x)
			other := opened(t, config)
			prepare(t, other)
			other.Hand(1, nil) // so that it has dropped one, too
			if whole(n) != whole(other) {
				t.Errorf("P9: %s: what was refused changed more than Dropped", c.name)
			}
		})
	}
}

func TestRefusesWhatIsNoPacket(t *testing.T) {
	eachStore(t, api.Config{Players: 2, Window: 8}, func(t *testing.T, n *rollback.Net) {
		good := packed(t, api.Packet{From: 1, Inputs: []byte{1, 2}})
		bad := [][]byte{nil, {}, {0x52}, good[:len(good)-1], append(bytes.Clone(good), 0), make([]byte, 1000), bytes.Repeat([]byte{0x52}, 300)}
		for i := range good {
			for bit := range 8 {
				b := bytes.Clone(good)
				b[i] ^= 1 << bit
				bad = append(bad, b)
			}
		}
		for i, b := range bad {
			isError(t, fmt.Sprintf("P9: Hand(0, %x)", b), n.Hand(0, b), ofPeer(0, api.ErrPacket))
			stands(t, n, 0, api.Peer{Dropped: i + 1})
		}
		stands(t, n, 1, api.Peer{})
		isError(t, "P9: Hand", n.Hand(0, good), nil)
		stands(t, n, 0, api.Peer{Dropped: len(bad), Known: known(0, 2)})
	})
}

// What comes by the network may be refused, too: then no one is told, but it counts.
func TestRefusesWhatComes(t *testing.T) {
	eachStore(t, api.Config{Players: 2, Window: 8}, func(t *testing.T, n *rollback.Net) {
		handed(t, n, 0, api.Packet{From: 1, Inputs: []byte{1, 2, 3}}) // player 1 never made them
		advanced(t, n, 0, 5)
		underWay(t, n, "1@1:0+0/3[5] ")
		n.Tick()
		stands(t, n, 1, api.Peer{Dropped: 1})
		n.Tick()
		stands(t, n, 1, api.Peer{Dropped: 2})
		advanced(t, n, 1, 9, 9, 9)
		n.Tick()
		stands(t, n, 1, api.Peer{Frame: 3, Confirmed: 1, Dropped: 2, Known: known(1, 3)})
		// what it knows stays: not what player 1 truly did
		if !bytes.Equal(remembered(t, n, 0), played(t, 2, []byte{5, 1})) {
			t.Errorf("P9: what is known changed")
		}
	})
}

func TestWhatIsKnownStays(t *testing.T) {
	eachStore(t, api.Config{Players: 2, Window: 8, Delay: 1}, func(t *testing.T, n *rollback.Net) {
		handed(t, n, 0, api.Packet{From: 1, Start: 1, Inputs: []byte{4, 5}})
		advanced(t, n, 0, 6, 6, 6, 6)
		for _, m := range []api.Packet{{Inputs: []byte{7, 7, 7}}, {Start: 1, Inputs: []byte{7}}, {Start: 2, Inputs: []byte{7}}, {Start: 3}, {Start: 0}} {
			m.From = 1
			handed(t, n, 0, m)
			stands(t, n, 0, api.Peer{Frame: 4, Confirmed: 3, Known: known(5, 3)})
			if !bytes.Equal(remembered(t, n, 0), played(t, 2, []byte{0, 0}, []byte{6, 4}, []byte{6, 5}, []byte{6, 5})) {
				t.Errorf("P9: behind %+v what is known changed", m)
			}
		}
		// of these four only the last is new
		handed(t, n, 0, api.Packet{From: 1, Inputs: []byte{7, 7, 7, 2}})
		if !bytes.Equal(remembered(t, n, 0), played(t, 2, []byte{0, 0}, []byte{6, 4}, []byte{6, 5}, []byte{6, 2})) {
			t.Errorf("P9: the one new input is not known by its frame")
		}
		stands(t, n, 0, api.Peer{Frame: 4, Confirmed: 4, Known: known(5, 4)})
	})
}

func TestAcknowledgementsNeverGoBack(t *testing.T) {
	eachStore(t, api.Config{Players: 3, Window: 8, Delay: 1, Lags: []int{20}}, func(t *testing.T, n *rollback.Net) {
		advanced(t, n, 0, 11, 12, 13)
		starts := func() string {
			n.Tick()
			s := ""
			for _, f := range n.Flights() {
				if f.Due == n.Now()+20 {
					p, _ := rollback.Unpack(f.Bytes)
					s += fmt.Sprintf("%d+%d%v ", f.To, p.Start, p.Inputs)
				}
			}
			return s
		}
		for _, c := range []struct {
			ack  int
			ok   bool
			want string
		}{
			{0, true, "1+1[11 12 13] 2+1[11 12 13] "}, // less than the delay, which is known from the beginning
			{3, true, "1+3[13] 2+1[11 12 13] "},
			{2, true, "1+3[13] 2+1[11 12 13] "},
			{0, true, "1+3[13] 2+1[11 12 13] "},
			{5, false, "1+3[13] 2+1[11 12 13] "},
			{4, true, "2+1[11 12 13] "},
			{3, true, "2+1[11 12 13] "},
		} {
			err := n.Hand(0, packed(t, api.Packet{From: 1, Ack: c.ack}))
			if got := starts(); got != c.want || (err == nil) != c.ok {
				t.Errorf("P9, P10: behind an ack of %d: %s, %v, want %s", c.ack, got, err, c.want)
			}
		}
	})
}

// A packet that is refused for one reason is not taken in part.
func TestNothingIsTakenOfWhatIsRefused(t *testing.T) {
	n := opened(t, api.Config{Players: 2, Window: 8})
	advanced(t, n, 0, 11, 12)
	for _, m := range []api.Packet{{From: 1, Start: 1, Ack: 2, Inputs: []byte{1}}, {From: 1, Ack: 3, Inputs: []byte{1}}} {
		isError(t, "P9: Hand", n.Hand(0, packed(t, m)), ofPeer(0, api.ErrPacket))
	}
	stands(t, n, 0, api.Peer{Frame: 2, Dropped: 2, Known: known(2, 0)})
	n.Tick()
	underWay(t, n, "1@2:0+0/0[11 12] ")
}

// What is sent at once (lag 0) is not there ahead of the next tick.
func TestALagOfNought(t *testing.T) {
	eachStore(t, api.Config{Players: 2, Window: 8, Lags: []int{0}}, func(t *testing.T, n *rollback.Net) {
		advanced(t, n, 0, 1)
		underWay(t, n, "1@0:0+0/0[1] ")
		stands(t, n, 1, api.Peer{})
		n.Tick() // 1 knows it; 0 does not know that, and sends again
		stands(t, n, 1, api.Peer{Known: known(1, 0)})
		underWay(t, n, "1@1:0+0/0[1] ")
		advanced(t, n, 1, 2)
		underWay(t, n, "1@1:0+0/0[1] 0@1:1+0/1[2] ")
		n.Tick() // 0 knows that 1 knows; 1 does not
		underWay(t, n, "0@2:1+0/1[2] ")
		n.Tick()
		underWay(t, n, "0@3:1+0/1[2] ")
		advanced(t, n, 0, 3) // tells it by its ack
		underWay(t, n, "0@3:1+0/1[2] 1@3:0+1/1[3] ")
		n.Tick()
		underWay(t, n, "1@4:0+1/1[3] ")
	})
}

func TestFlightsInOrder(t *testing.T) {
	n := opened(t, api.Config{Players: 2, Window: 8, Lags: []int{6, 5, 4, 3, 2, 1, 0, 6}})
	advanced(t, n, 0, 1, 2, 3, 4, 5, 6, 7, 8)
	underWay(t, n, "1@0:0+0/0[1 2 3 4 5 6 7] 1@1:0+0/0[1 2 3 4 5 6] 1@2:0+0/0[1 2 3 4 5] 1@3:0+0/0[1 2 3 4] 1@4:0+0/0[1 2 3] 1@5:0+0/0[1 2] 1@6:0+0/0[1] 1@6:0+0/0[1 2 3 4 5 6 7 8] ")
	n.Tick() // the first two come, and all is sent again
	stands(t, n, 1, api.Peer{Known: known(7, 0)})
	underWay(t, n, "1@2:0+0/0[1 2 3 4 5] 1@3:0+0/0[1 2 3 4] 1@4:0+0/0[1 2 3] 1@5:0+0/0[1 2] 1@6:0+0/0[1] 1@6:0+0/0[1 2 3 4 5 6 7 8] 1@7:0+0/0[1 2 3 4 5 6 7 8] ")
}

// Of two packets the second begins where the first ends: if it comes first, it is refused.
func TestWhichComesFirst(t *testing.T) {
	for _, c := range []struct {
		name string
		lags []int
		way  string
		want api.Peer
	}{
		{"due at once, sent earlier", []int{1, 1}, "1@1:0+0/0[5] 1@1:0+1/0[6] ", api.Peer{Known: known(2, 0)}},
		{"due earlier, sent later, in one tick", []int{1, 0}, "1@0:0+1/0[6] 1@1:0+0/0[5] ", api.Peer{Dropped: 1, Known: known(1, 0)}},
		{"due earlier, sent earlier, in one tick", []int{0, 1}, "1@0:0+0/0[5] 1@1:0+1/0[6] ", api.Peer{Known: known(2, 0)}},
	} {
		n := opened(t, api.Config{Players: 2, Window: 8, Lags: c.lags})
		advanced(t, n, 0, 5)
		handed(t, n, 0, api.Packet{From: 1, Ack: 1}) // ahead of the truth
		advanced(t, n, 0, 6)
		underWay(t, n, c.way)
		n.Tick()
		if got, err := n.Peer(1); err != nil || got != c.want {
			t.Errorf("P10: %s: peer 1 stands %+v, %v, want %+v", c.name, got, err, c.want)
		}
	}
}

func TestWhoSendsAgain(t *testing.T) {
	n := opened(t, api.Config{Players: 3, Window: 8, Delay: 1, Lags: []int{20}})
	n.Tick() // nobody has made an input
	underWay(t, n, "")
	advanced(t, n, 2, 5)
	advanced(t, n, 0, 6)
	handed(t, n, 2, api.Packet{From: 0, Start: 1, Ack: 2, Inputs: []byte{6}})
	n.Tick() // 0 to 1, 0 to 2, 2 to 1; 0 has acknowledged all of 2's, and 1 has made none
	underWay(t, n, "0@21:2+1/1[5] 1@21:2+1/1[5] 1@21:0+1/1[6] 2@21:0+1/1[6] 1@22:0+1/1[6] 2@22:0+1/1[6] 1@22:2+1/1[5] ")
	if n.Now() != 2 {
		t.Errorf("P10: Now = %d", n.Now())
	}
}

func TestSumAtItsBounds(t *testing.T) {
	for window := 1; window <= 8; window++ {
		eachStore(t, api.Config{Players: 2, Window: window, Lags: []int{-1}}, func(t *testing.T, n *rollback.Net) {
			handed(t, n, 0, api.Packet{From: 1, Inputs: counted(20)})
			var frames [][]byte
			for i := range 20 {
				for f := -3; f <= i+3; f++ {
					sum, err := n.Sum(0, f)
					if f < 0 || f > i || f < i-window {
						if sum != 0 {
							t.Errorf("P1: Sum(0, %d) at frame %d: %d beside an error", f, i, sum)
						}
						isError(t, "P11: Sum", err, ofPeer(0, api.ErrFrame))
						continue
					}
					if want := digested(t, played(t, 2, frames[:f]...)); sum != want || err != nil {
						t.Errorf("P11: window %d: Sum(0, %d) at frame %d = %d, %v, want %d", window, f, i, sum, err, want)
					}
				}
				advanced(t, n, 0, byte(3*i))
				frames = append(frames, []byte{byte(3 * i), counted(20)[i]})
			}
			for _, f := range []int{math.MinInt, math.MinInt + 20, math.MaxInt, 1 << 32, 1<<32 + 19, -1 << 32} {
				_, err := n.Sum(0, f)
				isError(t, "P11: Sum", err, ofPeer(0, api.ErrFrame))
			}
			_, err := n.Sum(1, 1)
			isError(t, "P11: Sum of peer 1", err, ofPeer(1, api.ErrFrame))
		})
	}
}

func TestErrorsAskedByPlain(t *testing.T) {
	n := opened(t, api.Config{Players: 2, Window: 1})
	advanced(t, n, 1, 4)
	if k, p := plain.Advance(n, 1, 4); k != api.ErrStall || p != 1 {
		t.Errorf("P8: %d of %d", k, p)
	}
	if k, p := plain.Advance(n, 2, 4); k != api.ErrPlayer || p != -1 {
		t.Errorf("P8: %d of %d", k, p)
	}
	if k, p := plain.Hand(n, 1, nil); k != api.ErrPacket || p != 1 {
		t.Errorf("P9: %d of %d", k, p)
	}
	if s, k, p := plain.Sum(n, 1, 2); s != 0 || k != api.ErrFrame || p != 1 {
		t.Errorf("P11: %d, %d of %d", s, k, p)
	}
	if m, k, p := plain.Memory(n, 1); len(m) != api.Memory || k != 0 || p != -1 {
		t.Errorf("P11: %v, %d of %d", m, k, p)
	}
}

// No net at all is a net without players: no call panics.
func TestWhatIsNoNet(t *testing.T) {
	for name, n := range map[string]*rollback.Net{"nil": nil, "zero value": {}} {
		n.Tick()
		for p := -1; p < 5; p++ {
			m, err1 := n.Memory(p)
			x, err2 := n.Peer(p)
			s, err3 := n.Sum(p, 0)
			for _, err := range []error{n.Advance(p, 1), n.Hand(p, nil), err1, err2, err3} {
				if err != error(api.ErrPlayer) {
					t.Errorf("P1: %s: %v", name, err)
				}
			}
			if m != nil || x != (api.Peer{}) || s != 0 {
				t.Errorf("P1: %s: %v, %v, %v", name, m, x, s)
			}
		}
		if len(n.Flights()) != 0 || n.Now() < 0 {
			t.Errorf("P1: %s: %v at %d", name, n.Flights(), n.Now())
		}
	}
}

func TestNewKeepsNoLags(t *testing.T) {
	room := []int{2, 3, 99, -99}
	lags := room[:2]
	n := opened(t, api.Config{Players: 2, Window: 8, Lags: lags})
	if !slices.Equal(room, []int{2, 3, 99, -99}) {
		t.Errorf("P2: New wrote into its lags, or behind them: %v", room)
	}
	room[0], room[1] = -1, -1
	advanced(t, n, 0, 1, 2, 3)
	underWay(t, n, "1@2:0+0/0[1] 1@2:0+0/0[1 2 3] 1@3:0+0/0[1 2] ")
	if !slices.Equal(room, []int{-1, -1, 99, -99}) {
		t.Errorf("P2: a net wrote into its lags, or behind them: %v", room)
	}
}

func TestHandOnlyReads(t *testing.T) {
	eachStore(t, api.Config{Players: 2, Window: 8}, func(t *testing.T, n *rollback.Net) {
		b := packed(t, api.Packet{From: 1, Inputs: []byte{4, 5}})
		room := append(bytes.Clone(b), 0xee, 0xee, 0xee)
		before := bytes.Clone(room)
		if err := n.Hand(0, room[:len(b)]); err != nil {
			t.Fatalf("P9: %v", err)
		}
		n.Hand(0, room[:len(b)-1])
		advanced(t, n, 0, 7, 7)
		if !bytes.Equal(room, before) {
			t.Errorf("P2: Hand wrote into what it was handed, or behind it")
		}
		clear(room)
		advanced(t, n, 0, 7)
		handed(t, n, 0, api.Packet{From: 1, Start: 2, Inputs: []byte{6}})
		if !bytes.Equal(remembered(t, n, 0), played(t, 2, []byte{7, 4}, []byte{7, 5}, []byte{7, 6})) {
			t.Errorf("P2: Hand keeps what it was handed")
		}
	})
}

func TestAnswersAreTheCallers(t *testing.T) {
	eachStore(t, api.Config{Players: 3, Window: 8, Lags: []int{2, 1}}, func(t *testing.T, n *rollback.Net) {
		advanced(t, n, 0, 4, 5, 6)
		advanced(t, n, 2, 4, 5, 6)
		before := whole(n)
		for p := range 3 {
			m := remembered(t, n, p)
			m = m[:cap(m)]
			for i := range m {
				m[i] = 0xaa
			}
		}
		l := n.Flights()
		for i, f := range l {
			b := f.Bytes[:cap(f.Bytes)]
			for j := range b {
				b[j] = byte(i)
			}
			l[i].To, l[i].Due = 0, 0
		}
		for i, f := range l {
			for _, x := range f.Bytes {
				if x != byte(i) {
					t.Fatalf("P2: two lists of one answer share memory")
				}
			}
		}
		clear(l[:cap(l)])
		if whole(n) != before {
			t.Errorf("P2: an answer is not the caller's own")
		}
		n.Tick()
		n.Tick()
		stands(t, n, 1, api.Peer{Known: known(3, 0, 3)})
	})
}

// Asking changes nothing, however often.
func TestAskingChangesNothing(t *testing.T) {
	c := api.Config{Players: 3, Window: 4, Delay: 1, Store: api.Delta, Lags: []int{1, -1, 3}}
	r, same := rand.New(rand.NewSource(21)), rand.New(rand.NewSource(21))
	asked, silent := opened(t, c), opened(t, c)
	model, other := newModelNet(c), newModelNet(c)
	for range 300 {
		step(t, r, asked, model, 20, 10)
		step(t, same, silent, other, 20, 10)
		whole(asked)
	}
	if whole(asked) != whole(silent) {
		t.Errorf("P1, P11: asking changed something")
	}
}

func TestNoNetHangsOnAnother(t *testing.T) {
	c := api.Config{Players: 2, Window: 3, Store: api.Delta, Lags: []int{2, 0, -1}}
	alone := opened(t, c)
	a, b := opened(t, c), opened(t, c)
	for i := range 60 {
		p := i % 2
		alone.Advance(p, byte(5*i))
		a.Advance(p, byte(5*i))
		b.Advance(p, byte(3*i+1))
		if i%3 == 0 {
			alone.Tick()
			a.Tick()
		}
		b.Tick()
		b.Hand(p, nil)
	}
	if whole(a) != whole(alone) {
		t.Errorf("P2: a net hangs on another")
	}
}

func TestNetsWhateverTheyAreHanded(t *testing.T) {
	r := rand.New(rand.NewSource(22))
	numbers := []int{math.MinInt, -2, -1, 0, 1, 2, 3, 4, 5, 1 << 40, math.MaxInt}
	odd := func() int { return numbers[r.Intn(len(numbers))] }
	for range 3000 {
		c := api.Config{Players: odd(), Window: odd(), Delay: odd(), Store: api.Store(odd()), Lags: make([]int, r.Intn(10))}
		for i := range c.Lags {
			c.Lags[i] = odd()
		}
		n, err := rollback.New(c)
		if (n == nil) != (err != nil) {
			t.Fatalf("P1: New(%+v) = %v, %v", c, n, err)
		}
		n, _ = rollback.New(randomConfig(r))
		for range 30 {
			b := make([]byte, r.Intn(80))
			r.Read(b)
			if len(b) > 7 {
				b[0], b[1], b[2], b[4], b[6] = 0x52, b[1]%5, b[2]%2, b[4]%2, byte(len(b)-8)
				checked(b)
			}
			n.Hand(r.Intn(4), b)
			n.Hand(odd(), b)
			n.Advance(r.Intn(4), byte(odd()))
			n.Advance(odd(), byte(odd()))
			if r.Intn(4) == 0 {
				n.Tick()
			}
			n.Sum(odd(), odd())
			n.Memory(odd())
			n.Peer(odd())
			n.Flights()
		}
	}
}
