package rollback_test

import (
	"bytes"
	"errors"
	"math"
	"math/rand"
	"testing"

	"rollback/api"
	"rollback/plain"
	"rollback/rollback"
)

const (
	ahead = 0
	left  = 1
	right = 2
	stay  = 3
	paint = 4
)

func played(t *testing.T, players int, inputs ...[]byte) []byte {
	t.Helper()
	m, err := rollback.Play(players, inputs)
	if err != nil || len(m) != api.Memory {
		t.Fatalf("P3: Play(%d, %v) = %d bytes, %v", players, inputs, len(m), err)
	}
	return m
}

// repeated gives n frames that are alike, each of its own memory.
func repeated(n int, frame ...byte) [][]byte {
	frames := make([][]byte, n)
	for i := range frames {
		frames[i] = bytes.Clone(frame)
	}
	return frames
}

func joined(lists ...[][]byte) [][]byte {
	var all [][]byte
	for _, l := range lists {
		all = append(all, l...)
	}
	return all
}

type shipWant struct{ x, y, heading, score int }

// memoryOf builds the 288 bytes from what the document says of them.
func memoryOf(ships []shipWant, cells map[[2]int]byte) []byte {
	m := make([]byte, 288)
	for at, number := range cells {
		m[16*at[1]+at[0]] = number
	}
	for k, s := range ships {
		copy(m[256+8*k:], []byte{byte(s.x), byte(s.y), byte(s.heading), byte(s.score / 256), byte(s.score % 256), 0, 0, 0})
	}
	return m
}

func TestPlayCases(t *testing.T) {
	cells := func(number byte, at ...[2]int) map[[2]int]byte {
		m := map[[2]int]byte{}
		for _, a := range at {
			m[a] = number
		}
		return m
	}
	for _, c := range []struct {
		name    string
		players int
		inputs  [][]byte
		ships   []shipWant
		cells   map[[2]int]byte
	}{
		{"no frame, 2 players", 2, nil, []shipWant{{2, 8, 0, 0}, {6, 8, 0, 0}}, nil},
		{"no frame, 3 players", 3, [][]byte{}, []shipWant{{2, 8, 0, 0}, {6, 8, 0, 0}, {10, 8, 0, 0}}, nil},
		{"no frame, 4 players", 4, nil, []shipWant{{2, 8, 0, 0}, {6, 8, 0, 0}, {10, 8, 0, 0}, {14, 8, 0, 0}}, nil},
		{"go on and paint", 2, [][]byte{{ahead | paint, stay}}, []shipWant{{3, 8, 0, 1}, {6, 8, 0, 0}}, cells(1, [2]int{3, 8})},
		{"turn left, north", 2, repeated(1, left, stay), []shipWant{{2, 9, 1, 0}, {6, 8, 0, 0}}, nil},
		{"turn left, west", 2, repeated(2, left, stay), []shipWant{{1, 9, 2, 0}, {6, 8, 0, 0}}, nil},
		{"turn left, south", 2, repeated(3, left, stay), []shipWant{{1, 8, 3, 0}, {6, 8, 0, 0}}, nil},
		{"turn left, round", 2, repeated(4, left, stay), []shipWant{{2, 8, 0, 0}, {6, 8, 0, 0}}, nil},
		{"turn right, south", 2, repeated(1, right, stay), []shipWant{{2, 7, 3, 0}, {6, 8, 0, 0}}, nil},
		{"turn right, west", 2, repeated(2, right, stay), []shipWant{{1, 7, 2, 0}, {6, 8, 0, 0}}, nil},
		{"turn right, north", 2, repeated(3, right, stay), []shipWant{{1, 8, 1, 0}, {6, 8, 0, 0}}, nil},
		{"turn right, round", 2, repeated(4, right, stay), []shipWant{{2, 8, 0, 0}, {6, 8, 0, 0}}, nil},
		{"east edge, last cell", 2, repeated(9, stay, ahead), []shipWant{{2, 8, 0, 0}, {15, 8, 0, 0}}, nil},
		{"over the east edge", 2, repeated(10, stay, ahead|paint), []shipWant{{2, 8, 0, 0}, {0, 8, 0, 10}},
			cells(2, [2]int{7, 8}, [2]int{8, 8}, [2]int{9, 8}, [2]int{10, 8}, [2]int{11, 8}, [2]int{12, 8}, [2]int{13, 8}, [2]int{14, 8}, [2]int{15, 8}, [2]int{0, 8})},
		{"over the west edge", 2, joined(repeated(2, left, stay), repeated(2, ahead, stay)), []shipWant{{15, 9, 2, 0}, {6, 8, 0, 0}}, nil},
		{"north edge, last cell", 2, joined(repeated(1, left, stay), repeated(6, ahead, stay)), []shipWant{{2, 15, 1, 0}, {6, 8, 0, 0}}, nil},
		{"over the north edge", 2, joined(repeated(1, left, stay), repeated(7, ahead, stay)), []shipWant{{2, 0, 1, 0}, {6, 8, 0, 0}}, nil},
		{"south edge, last cell", 2, joined(repeated(1, right, stay), repeated(7, ahead, stay)), []shipWant{{2, 0, 3, 0}, {6, 8, 0, 0}}, nil},
		{"over the south edge", 2, joined(repeated(1, right, stay), repeated(8, ahead, stay)), []shipWant{{2, 15, 3, 0}, {6, 8, 0, 0}}, nil},
		{"another ship ahead", 2, repeated(4, ahead, stay), []shipWant{{5, 8, 0, 0}, {6, 8, 0, 0}}, nil},
		{"another ship ahead, painting", 2, joined(repeated(3, ahead, stay), repeated(2, ahead|paint, stay)), []shipWant{{5, 8, 0, 1}, {6, 8, 0, 0}}, cells(1, [2]int{5, 8})},
		{"another ship beyond the edge", 4, repeated(5, stay, stay, stay, ahead), []shipWant{{2, 8, 0, 0}, {6, 8, 0, 0}, {10, 8, 0, 0}, {1, 8, 0, 0}}, nil},
		{"not gone, then gone", 2, joined(repeated(5, ahead, stay), repeated(1, ahead, left), repeated(1, ahead, stay)), []shipWant{{6, 8, 0, 0}, {6, 9, 1, 0}}, nil},
		{"a later ship has not gone yet", 2, joined(repeated(3, ahead, stay), repeated(1, ahead, left)), []shipWant{{5, 8, 0, 0}, {6, 9, 1, 0}}, nil},
		{"an earlier ship has gone already", 2, joined(repeated(3, stay, left), [][]byte{{stay, right}, {stay, ahead}, {left, ahead}}), []shipWant{{2, 9, 1, 0}, {2, 8, 2, 0}}, nil},
		{"stay and paint, once only", 2, repeated(3, stay|paint, stay), []shipWant{{2, 8, 0, 1}, {6, 8, 0, 0}}, cells(1, [2]int{2, 8})},
		{"not painting leaves a cell as it is", 2, [][]byte{{stay | paint, stay}, {left, stay}, {stay, stay}}, []shipWant{{2, 9, 1, 1}, {6, 8, 0, 0}}, cells(1, [2]int{2, 8})},
	} {
		if got, want := played(t, c.players, c.inputs...), memoryOf(c.ships, c.cells); !bytes.Equal(got, want) {
			t.Errorf("P3: %s:\n got %v\nwant %v", c.name, got, want)
		}
	}
}

// A blocked turn, each way: the ship heads elsewhere but stands where it stood.
func TestBlockedShipHasTurned(t *testing.T) {
	for _, c := range []struct {
		name   string
		inputs [][]byte
		ships  []shipWant
	}{
		// ship 0 goes to 6, 9 and turns south, where ship 1 stands
		{"right", joined([][]byte{{left, stay}, {right, stay}}, repeated(3, ahead, stay), repeated(1, right, stay)), []shipWant{{6, 9, 3, 0}, {6, 8, 0, 0}}},
		// ship 0 goes to 6, 7 and turns north, where ship 1 stands
		{"left", joined([][]byte{{right, stay}, {left, stay}}, repeated(3, ahead, stay), repeated(1, left, stay)), []shipWant{{6, 7, 1, 0}, {6, 8, 0, 0}}},
	} {
		if got, want := played(t, 2, c.inputs...), memoryOf(c.ships, nil); !bytes.Equal(got, want) {
			t.Errorf("P3: %s:\n got %v\nwant %v", c.name, got[256:], want[256:])
		}
	}
}

func TestPaintingOverAnothersCell(t *testing.T) {
	// ship 1 paints 6, 8 and 6, 9 and goes aside; ship 0 goes on to 6, 8 and paints it anew
	inputs := joined([][]byte{{stay, stay | paint}, {stay, left | paint}, {stay, ahead}}, repeated(3, ahead, stay), repeated(1, ahead|paint, stay))
	want := memoryOf([]shipWant{{6, 8, 0, 1}, {6, 10, 1, 2}}, map[[2]int]byte{{6, 8}: 1, {6, 9}: 2})
	if got := played(t, 2, inputs...); !bytes.Equal(got, want) {
		t.Errorf("P3: painting over:\n got %v\nwant %v", got, want)
	}
}

func TestBitsThatSayNothing(t *testing.T) {
	r := rand.New(rand.NewSource(1))
	for players := 2; players <= 4; players++ {
		low := randomFrames(r, players, 100)
		high := make([][]byte, len(low))
		for i, frame := range low {
			for k := range frame {
				frame[k] &= 7
				high[i] = append(high[i], frame[k]|byte(r.Intn(32)<<3))
			}
		}
		if !bytes.Equal(played(t, players, low...), played(t, players, high...)) {
			t.Errorf("P3: the upper five bits change the game of %d", players)
		}
	}
}

func randomFrames(r *rand.Rand, players, n int) [][]byte {
	frames := make([][]byte, n)
	for i := range frames {
		frames[i] = make([]byte, players)
		for k := range frames[i] {
			frames[i][k] = byte(r.Intn(256))
		}
	}
	return frames
}

// modelGame is the document's game once more, by whole numbers.
type modelGame struct {
	cells [16][16]byte
	ships []shipWant
}

func newModelGame(players int) *modelGame {
	g := &modelGame{}
	for k := range players {
		g.ships = append(g.ships, shipWant{x: 4*k + 2, y: 8})
	}
	return g
}

func (g *modelGame) act(k int, input byte) {
	s := &g.ships[k]
	move := input % 4
	switch move {
	case 1:
		s.heading = (s.heading + 1) % 4
	case 2:
		s.heading = (s.heading + 3) % 4
	}
	if move != 3 {
		dx, dy := []int{1, 0, -1, 0}[s.heading], []int{0, 1, 0, -1}[s.heading]
		x, y := (s.x+dx+16)%16, (s.y+dy+16)%16
		free := true
		for _, other := range g.ships {
			free = free && (other.x != x || other.y != y)
		}
		if free {
			s.x, s.y = x, y
		}
	}
	if input&4 != 0 && g.cells[s.y][s.x] != byte(k+1) {
		g.cells[s.y][s.x] = byte(k + 1)
		s.score++
	}
}

func (g *modelGame) memory() []byte {
	m := memoryOf(g.ships, nil)
	for y, row := range g.cells {
		copy(m[16*y:], row[:])
	}
	return m
}

func TestPlayLikeTheModel(t *testing.T) {
	r := rand.New(rand.NewSource(2))
	for i := range 600 {
		players := 2 + i%3
		frames := randomFrames(r, players, r.Intn(api.MaxFrames+1))
		g := newModelGame(players)
		for _, frame := range frames {
			for k, input := range frame {
				g.act(k, input)
			}
		}
		if got, want := played(t, players, frames...), g.memory(); !bytes.Equal(got, want) {
			t.Fatalf("P3: Play(%d, %v):\n got %v\nwant %v", players, frames, got, want)
		}
	}
}

func TestPlayLongestGame(t *testing.T) {
	for players := 2; players <= 4; players++ {
		played(t, players, repeated(api.MaxFrames, make([]byte, players)...)...)
	}
	// a ship alone on its column paints 16 cells, then goes over them in vain
	up := joined(repeated(1, left|paint, stay), repeated(api.MaxFrames-1, ahead|paint, stay))
	m := played(t, 2, up...)
	if got, want := [8]byte(m[256:264]), [8]byte{2, byte((8 + 200) % 16), 1, 0, 16}; got != want {
		t.Errorf("P3: ship 0 behind MaxFrames frames is %v, want %v", got, want)
	}
}

func TestPlayRefuses(t *testing.T) {
	good := repeated(3, 0, 0)
	for _, c := range []struct {
		name    string
		players int
		inputs  [][]byte
		want    api.Kind
	}{
		{"1 player", 1, repeated(2, 0), api.ErrPlayer},
		{"5 players", 5, repeated(2, 0, 0, 0, 0, 0), api.ErrPlayer},
		{"0 players", 0, nil, api.ErrPlayer},
		{"-1 players", -1, nil, api.ErrPlayer},
		{"least number", math.MinInt, nil, api.ErrPlayer},
		{"greatest number", math.MaxInt, nil, api.ErrPlayer},
		{"256 more than 2", 258, nil, api.ErrPlayer},
		{"2^32 more than 2", 1<<32 + 2, nil, api.ErrPlayer},
		{"1 player and a bad frame: ErrPlayer first", 1, repeated(1, 0, 0), api.ErrPlayer},
		{"5 players and too many frames: ErrPlayer first", 5, make([][]byte, api.MaxFrames+1), api.ErrPlayer},
		{"one frame more", 2, repeated(api.MaxFrames+1, 0, 0), api.ErrInputs},
		{"many frames more", 3, repeated(10*api.MaxFrames, 0, 0, 0), api.ErrInputs},
		{"an input too few", 3, repeated(1, 0, 0), api.ErrInputs},
		{"an input too many", 3, repeated(1, 0, 0, 0, 0), api.ErrInputs},
		{"an input too many, of 4", 4, repeated(1, 0, 0, 0, 0, 0), api.ErrInputs},
		{"no input", 2, [][]byte{{}}, api.ErrInputs},
		{"a frame that is nil", 2, [][]byte{{0, 0}, nil, {0, 0}}, api.ErrInputs},
		{"the last frame", 2, joined(good, [][]byte{{0, 0, 0}}), api.ErrInputs},
		{"the first frame", 2, joined([][]byte{{0}}, good), api.ErrInputs},
		{"the last of MaxFrames", 2, joined(repeated(api.MaxFrames-1, 0, 0), [][]byte{{0}}), api.ErrInputs},
	} {
		m, err := rollback.Play(c.players, c.inputs)
		if m != nil || err != error(c.want) || !errors.Is(err, c.want) {
			t.Errorf("P1, P3: %s: %v, %v, want %v", c.name, m, err, c.want)
		}
		if m, kind := plain.Play(c.players, c.inputs); m != nil || kind != c.want {
			t.Errorf("P1, P3: %s, asked by plain: %v, %v, want %v", c.name, m, kind, c.want)
		}
	}
}

func TestPlayWhateverItIsHanded(t *testing.T) {
	r := rand.New(rand.NewSource(3))
	for range 3000 {
		players := r.Intn(8) - 1
		frames := randomFrames(r, max(players, 0), r.Intn(api.MaxFrames+20))
		if len(frames) > 0 && r.Intn(2) == 0 {
			frames[r.Intn(len(frames))] = make([]byte, r.Intn(6))
		}
		m, err := rollback.Play(players, frames)
		if (err == nil) != (len(m) == api.Memory) || (err != nil) != (m == nil) {
			t.Fatalf("P1: Play(%d, %v) = %v, %v", players, frames, m, err)
		}
	}
}

// withSpare gives frames that lie, with room behind each, in one array; the list has room behind it too.
func withSpare(frames [][]byte, width int) (list [][]byte, room []byte) {
	room = bytes.Repeat([]byte{0xee}, len(frames)*width+width)
	list = make([][]byte, 0, len(frames)+3)
	for i, frame := range frames {
		at := room[i*width:]
		copy(at, frame)
		list = append(list, at[:len(frame)])
	}
	for i := len(list); i < cap(list); i++ {
		list[:cap(list)][i] = []byte{1, 2, 3}
	}
	return list, room
}

func TestPlayOnlyReads(t *testing.T) {
	r := rand.New(rand.NewSource(4))
	for players := 2; players <= 4; players++ {
		list, room := withSpare(randomFrames(r, players, 20), players+3)
		before, roomBefore := make([][]byte, cap(list)), bytes.Clone(room)
		for i, frame := range list[:cap(list)] {
			before[i] = bytes.Clone(frame)
		}
		if _, err := rollback.Play(players, list); err != nil {
			t.Fatalf("P3: %v", err)
		}
		rollback.Play(players+1, list)
		if !bytes.Equal(room, roomBefore) {
			t.Errorf("P2: Play wrote into what it was handed, or behind it")
		}
		for i, frame := range list[:cap(list)] {
			if !bytes.Equal(frame, before[i]) {
				t.Errorf("P2: Play changed frame %d of the list, or of the room behind it", i)
			}
		}
	}
}

func TestPlayAnswersNewMemory(t *testing.T) {
	inputs := repeated(5, ahead|paint, left|paint)
	first, second := played(t, 2, inputs...), played(t, 2, inputs...)
	want := bytes.Clone(second)
	for _, frame := range inputs {
		frame[0], frame[1] = 0xff, 0xff
	}
	inputs[0] = nil
	whole := first[:cap(first)]
	for i := range whole {
		whole[i] = 0xaa
	}
	if !bytes.Equal(second, want) {
		t.Errorf("P2: an answer changed with its inputs or with another answer")
	}
	if again := played(t, 2, repeated(5, ahead|paint, left|paint)...); !bytes.Equal(again, want) {
		t.Errorf("P2: a later answer hangs on what the caller wrote")
	}
}

func TestExamplesOfPlay(t *testing.T) {
	nothing := make([]byte, 288)
	nothing[256], nothing[257], nothing[264], nothing[265] = 2, 8, 6, 8
	if m := played(t, 2); !bytes.Equal(m, nothing) {
		t.Errorf("P3: Play(2, nothing) = %v", m)
	}
	one := bytes.Clone(nothing)
	one[131], one[256], one[260] = 1, 3, 1
	if m := played(t, 2, []byte{4, 3}); !bytes.Equal(m, one) {
		t.Errorf("P3: Play(2, [[4 3]]) = %v", m)
	}
	if m := played(t, 2, repeated(4, 1, 3)...); !bytes.Equal(m, nothing) {
		t.Errorf("P3: four turns to the left: %v", m)
	}
	if m := played(t, 2, repeated(4, 0, 3)...); m[256] != 5 || m[257] != 8 {
		t.Errorf("P3: ship 0 stands at %d, %d, want 5, 8", m[256], m[257])
	}
}

func TestNewIsNotNil(t *testing.T) {
	if n, err := rollback.New(api.Config{Players: 2, Window: 2}); n == nil || err != nil {
		t.Errorf("P1: New = %v, %v", n, err)
	}
}
