package store

import (
	"math/rand"
	"testing"

	"rollback/api"
	"rollback/game"
)

func randomInputs(r *rand.Rand, players int) game.Inputs {
	var in game.Inputs
	for k := range players {
		in[k] = byte(r.Intn(256))
	}
	return in
}

// replayed gives the memory behind frames, from the beginning.
func replayed(players int, frames []game.Inputs) game.Memory {
	m := game.Start(players)
	for _, in := range frames {
		m = m.Next(in[:players])
	}
	return m
}

func checkStore(t *testing.T, s Store, players, window int, frames []game.Inputs) {
	t.Helper()
	if s.Frame() != len(frames) {
		t.Fatalf("P7: at frame %d, want %d", s.Frame(), len(frames))
	}
	for f := max(0, len(frames)-window); f <= len(frames); f++ {
		if s.State(f) != replayed(players, frames[:f]) {
			t.Fatalf("P7: at frame %d: the state at %d (window %d)", len(frames), f, window)
		}
		if f < len(frames) && s.Played(f) != frames[f] {
			t.Fatalf("P7: at frame %d: frame %d was played with %v, want %v", len(frames), f, s.Played(f), frames[f])
		}
	}
}

func TestStoresPlayAndGoBack(t *testing.T) {
	r := rand.New(rand.NewSource(1))
	for i := range 400 {
		players, window := 2+i%3, 1+r.Intn(api.MaxWindow)
		for _, kind := range []api.Store{api.Full, api.Delta} {
			s := New(kind, players, window)
			var frames []game.Inputs
			oldest := 0 // what was given up by going on can not be gone back to, whatever was gone back since
			for range 40 {
				if r.Intn(3) > 0 {
					in := randomInputs(r, players)
					s.Play(in)
					frames = append(frames, in)
					oldest = max(oldest, len(frames)-window)
				} else {
					back := oldest + r.Intn(len(frames)-oldest+1)
					s.Back(back)
					frames = frames[:back]
				}
				checkStore(t, s, players, len(frames)-oldest, frames)
			}
		}
	}
}

func TestGoingBackNowhereChangesNothing(t *testing.T) {
	for _, kind := range []api.Store{api.Full, api.Delta} {
		s := New(kind, 2, 3)
		frames := []game.Inputs{{4, 5}, {4, 6}}
		for _, in := range frames {
			s.Play(in)
		}
		s.Back(2)
		checkStore(t, s, 2, 3, frames)
	}
}

func TestStoresHaveTheirTypes(t *testing.T) {
	if _, ok := New(api.Full, 2, 1).(*full); !ok {
		t.Errorf("P6: Full is not kept by its type")
	}
	if _, ok := New(api.Delta, 2, 1).(*delta); !ok {
		t.Errorf("P6: Delta is not kept by its type")
	}
}

// What delta keeps are the pages that a frame wrote, and of frames that are not played, none.
func TestDeltaKeepsWhatWasWritten(t *testing.T) {
	const window = 3
	s := newDelta(past{players: 2, now: game.Start(2), played: New(api.Full, 2, window).(*full).played}, window)
	sizes := func() [window + 1]int {
		var n [window + 1]int
		for f := range n {
			n[f] = len(s.written.At(f))
		}
		return n
	}
	for _, c := range []struct {
		name string
		act  func()
		want [window + 1]int
	}{
		{"a new one", func() {}, [window + 1]int{}},
		{"none moves", func() { s.Play(game.Inputs{3, 3}) }, [window + 1]int{}},
		{"one paints: a row of the field, and the ships", func() { s.Play(game.Inputs{4, 3}) }, [window + 1]int{0, 2, 0, 0}},
		{"one goes on: the ships", func() { s.Play(game.Inputs{3, 0}) }, [window + 1]int{0, 2, 1, 0}},
		{"two rows and the ships", func() { s.Play(game.Inputs{4, 5}) }, [window + 1]int{0, 2, 1, 3}},
		{"back by two", func() { s.Back(2) }, [window + 1]int{0, 2, 0, 0}},
		{"none moves there", func() { s.Play(game.Inputs{3, 3}) }, [window + 1]int{0, 2, 0, 0}},
		{"the place of the frame to come is emptied", func() { s.Play(game.Inputs{0, 3}); s.Play(game.Inputs{0, 3}) }, [window + 1]int{1, 0, 0, 1}},
	} {
		c.act()
		if got := sizes(); got != c.want {
			t.Errorf("P6: %s: %v pages, want %v", c.name, got, c.want)
		}
	}
}
