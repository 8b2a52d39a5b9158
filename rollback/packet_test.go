package rollback_test

import (
	"bytes"
	"encoding/binary"
	"errors"
	"math"
	"math/rand"
	"reflect"
	"testing"

	"rollback/api"
	"rollback/plain"
	"rollback/rollback"
)

// checked sets a list's last byte to the check of those ahead of it.
func checked(b []byte) []byte {
	v := byte(0x5a)
	for _, x := range b[:len(b)-1] {
		v ^= x
	}
	b[len(b)-1] = v
	return b
}

// modelPacket is the document's list of a packet's bytes once more.
func modelPacket(p api.Packet) []byte {
	b := []byte{0x52, byte(p.From)}
	b = binary.BigEndian.AppendUint16(b, uint16(p.Start))
	b = binary.BigEndian.AppendUint16(b, uint16(p.Ack))
	b = append(b, byte(len(p.Inputs)))
	b = append(b, p.Inputs...)
	return checked(append(b, 0))
}

func samePacket(a, b api.Packet) bool {
	return a.From == b.From && a.Start == b.Start && a.Ack == b.Ack && bytes.Equal(a.Inputs, b.Inputs)
}

func packed(t *testing.T, p api.Packet) []byte {
	t.Helper()
	b, err := rollback.Pack(p)
	if err != nil {
		t.Fatalf("P5: Pack(%+v): %v", p, err)
	}
	return b
}

func counted(n int) []byte {
	b := make([]byte, n)
	for i := range b {
		b[i] = byte(5*i + 1)
	}
	return b
}

// edges gives packets of all that the document bounds, on the bounds and beside them.
func edges() []api.Packet {
	var all []api.Packet
	numbers := []int{0, 1, 2, 255, 256, 257, 258, 32767, 32768, 65279, 65280, 65534, 65535}
	for from := range api.MaxPlayers {
		for _, n := range numbers {
			all = append(all, api.Packet{From: from, Start: n}, api.Packet{From: from, Ack: n}, api.Packet{From: from, Start: n, Ack: 65535 - n, Inputs: counted(n % 65)})
		}
	}
	for n := range api.MaxBatch + 1 {
		all = append(all, api.Packet{From: n % 4, Start: 1000 * n, Ack: 7 * n, Inputs: counted(n)})
	}
	return append(all, api.Packet{Inputs: []byte{}}, api.Packet{Inputs: bytes.Repeat([]byte{255}, api.MaxBatch)})
}

func TestExampleOfPackets(t *testing.T) {
	p := api.Packet{From: 1, Start: 258, Ack: 3, Inputs: []byte{7, 8}}
	want := []byte{0x52, 0x01, 0x01, 0x02, 0x00, 0x03, 0x02, 0x07, 0x08, 0x04}
	if b := packed(t, p); !bytes.Equal(b, want) {
		t.Errorf("P5: Pack(%+v) = %x, want %x", p, b, want)
	}
	if got, err := rollback.Unpack(want); err != nil || !samePacket(got, p) {
		t.Errorf("P5: Unpack(%x) = %+v, %v", want, got, err)
	}
	if b, kind := plain.Pack(p); kind != 0 || !bytes.Equal(b, want) {
		t.Errorf("P5: Pack(%+v), asked by plain: %x, %v", p, b, kind)
	}
	if got, kind := plain.Unpack(want); kind != 0 || !samePacket(got, p) {
		t.Errorf("P5: Unpack(%x), asked by plain: %+v, %v", want, got, kind)
	}
}

func TestPackEdges(t *testing.T) {
	for _, p := range edges() {
		b := packed(t, p)
		if want := modelPacket(p); !bytes.Equal(b, want) {
			t.Errorf("P5: Pack(%+v) = %x, want %x", p, b, want)
		}
		if got, err := rollback.Unpack(b); err != nil || !samePacket(got, p) {
			t.Errorf("P5: Unpack(%x) = %+v, %v, want %+v", b, got, err, p)
		}
	}
}

func TestPackEveryNumber(t *testing.T) {
	for n := range 65536 {
		p := api.Packet{From: n % 4, Start: n, Ack: n ^ 0xa5c3, Inputs: []byte{byte(n)}}
		b := packed(t, p)
		if got, err := rollback.Unpack(b); err != nil || !samePacket(got, p) || !bytes.Equal(b, modelPacket(p)) {
			t.Fatalf("P5: Pack(%+v) = %x, Unpack of that: %+v, %v", p, b, got, err)
		}
	}
}

func TestPackRefuses(t *testing.T) {
	var wrong []api.Packet
	for _, n := range []int{-1, -2, -256, -65536, 1 << 20, 1 << 32, 1 << 62, math.MaxInt, math.MinInt} {
		wrong = append(wrong, api.Packet{From: n}, api.Packet{Start: n}, api.Packet{Ack: n}, api.Packet{From: n, Start: n, Ack: n})
	}
	for _, n := range []int{4, 5, 255, 256, 65536} {
		wrong = append(wrong, api.Packet{From: n, Inputs: []byte{1}})
	}
	for _, n := range []int{65536, 65537, 131072} {
		wrong = append(wrong, api.Packet{Start: n}, api.Packet{Ack: n, Inputs: []byte{1}})
	}
	for _, n := range []int{65, 66, 128, 255, 256, 257, 320, 1 << 20} {
		wrong = append(wrong, api.Packet{From: 1, Inputs: make([]byte, n)})
	}
	for _, p := range wrong {
		b, err := rollback.Pack(p)
		if b != nil || err != error(api.ErrPacket) || !errors.Is(err, api.ErrPacket) {
			t.Errorf("P1, P5: Pack(From %d, Start %d, Ack %d, %d inputs) = %x, %v", p.From, p.Start, p.Ack, len(p.Inputs), b, err)
		}
		if b, kind := plain.Pack(p); b != nil || kind != api.ErrPacket {
			t.Errorf("P1, P5: Pack of a wrong packet, asked by plain: %x, %v", b, kind)
		}
	}
}

func refused(t *testing.T, b []byte) {
	t.Helper()
	p, err := rollback.Unpack(b)
	if !reflect.DeepEqual(p, api.Packet{}) || err != error(api.ErrPacket) || !errors.Is(err, api.ErrPacket) {
		t.Errorf("P1, P5: Unpack(%x) = %+v, %v, want ErrPacket", b, p, err)
	}
	if p, kind := plain.Unpack(b); !reflect.DeepEqual(p, api.Packet{}) || kind != api.ErrPacket {
		t.Errorf("P1, P5: Unpack(%x), asked by plain: %+v, %v", b, p, kind)
	}
}

func TestUnpackRefusesWhatIsSpoilt(t *testing.T) {
	for _, p := range edges() {
		b := packed(t, p)
		for i := range 8 * len(b) {
			b[i/8] ^= 1 << (i % 8)
			refused(t, b)
			b[i/8] ^= 1 << (i % 8)
		}
		for n := range b {
			refused(t, b[:n])
			refused(t, b[n+1:])
		}
		for _, more := range []byte{0, b[len(b)-1], 0x52, 255} {
			refused(t, append(bytes.Clone(b), more))
			refused(t, append([]byte{more}, b...))
		}
		refused(t, append(bytes.Clone(b), b...))
	}
}

func TestUnpackRefusesWhatNoPacketMakes(t *testing.T) {
	// the checks are right here, so that each fault stands alone
	for _, p := range edges() {
		good := packed(t, p)
		for v := range 256 {
			other := bytes.Clone(good)
			if other[0] = byte(v); v != 0x52 {
				refused(t, checked(other))
			}
			other = bytes.Clone(good)
			if other[1] = byte(v); v > 3 {
				refused(t, checked(other))
			}
			other = bytes.Clone(good)
			if other[6] = byte(v); v != len(p.Inputs) {
				refused(t, checked(other))
			}
			other = bytes.Clone(good)
			if other[len(other)-1] = byte(v); v != int(good[len(good)-1]) {
				refused(t, other)
			}
		}
		refused(t, checked(append(bytes.Clone(good), 0)))
		refused(t, checked(bytes.Clone(good[:len(good)-1])))
	}
	for n := api.MaxBatch + 1; n < 256; n++ {
		refused(t, checked(append([]byte{0x52, 1, 0, 0, 0, 0, byte(n)}, make([]byte, n+1)...)))
	}
	// a number of inputs beyond a byte wraps round to one that would fit
	refused(t, checked(append([]byte{0x52, 1, 0, 0, 0, 0, 2}, make([]byte, 256+2+1)...)))
}

func TestUnpackOfAnyBytes(t *testing.T) {
	refused(t, nil)
	refused(t, []byte{})
	refused(t, make([]byte, 1<<20))
	for n := 1; n < 300; n++ {
		refused(t, make([]byte, n))
		refused(t, bytes.Repeat([]byte{0x52}, n))
		refused(t, bytes.Repeat([]byte{0xff}, n))
	}
	r := rand.New(rand.NewSource(11))
	taken := 0
	for range 100000 {
		b := make([]byte, 8+r.Intn(5))
		r.Read(b)
		b[0], b[1], b[6] = 0x52-byte(r.Intn(2)), byte(r.Intn(5)), byte(len(b)-8+r.Intn(2))
		if r.Intn(4) > 0 {
			checked(b)
		}
		p, err := rollback.Unpack(b)
		if err != nil {
			refused(t, b)
			if b[0] == 0x52 && b[1] < 4 && int(b[6]) == len(b)-8 && bytes.Equal(b, checked(bytes.Clone(b))) {
				t.Fatalf("P5: Unpack(%x) refuses a packet", b)
			}
			continue
		}
		taken++
		if again := packed(t, p); !bytes.Equal(again, b) {
			t.Fatalf("P5: Unpack(%x) = %+v, which Pack makes %x of", b, p, again)
		}
	}
	if taken < 1000 {
		t.Errorf("P5: only %d lists were packets", taken)
	}
}

func TestPackOnlyReads(t *testing.T) {
	for _, n := range []int{0, 1, 3, api.MaxBatch, api.MaxBatch + 1} {
		room := counted(n + 16)
		before := bytes.Clone(room)
		p := api.Packet{From: 2, Start: 3, Ack: 4, Inputs: room[:n]}
		b, err := rollback.Pack(p)
		if !bytes.Equal(room, before) {
			t.Errorf("P2: Pack of %d inputs wrote into them or behind them: %v", n, room)
		}
		if n > api.MaxBatch {
			continue
		}
		want := bytes.Clone(b)
		clear(room)
		if err != nil || !bytes.Equal(b, want) {
			t.Errorf("P2: the bytes of %d inputs hang on the list that was handed in: %x, %v", n, b, err)
		}
		copy(room, before)
		clear(b[:cap(b)])
		if again := packed(t, p); !bytes.Equal(again, want) || !bytes.Equal(room, before) {
			t.Errorf("P2: Pack of %d inputs once more: %x, want %x", n, again, want)
		}
	}
}

func TestUnpackOnlyReads(t *testing.T) {
	for _, n := range []int{0, 1, 3, api.MaxBatch} {
		want := api.Packet{From: 2, Start: 3, Ack: 4, Inputs: counted(n)}
		b := packed(t, want)
		room := append(bytes.Clone(b), 71, 72, 73)
		before := bytes.Clone(room)
		first, _ := rollback.Unpack(room[:len(b)])
		second, _ := rollback.Unpack(room[:len(b)])
		rollback.Unpack(room[:len(b)-1])
		if !bytes.Equal(room, before) {
			t.Errorf("P2: Unpack wrote into what it was handed, or behind it: %x", room)
		}
		clear(first.Inputs[:cap(first.Inputs)])
		if !bytes.Equal(room, before) || !samePacket(second, want) {
			t.Errorf("P2: two answers share memory, or one with what was handed in: %x, %+v", room, second)
		}
		clear(room)
		if !samePacket(second, want) {
			t.Errorf("P2: an answer hangs on the bytes that were handed in: %+v", second)
		}
	}
}
