package packet

import (
	"errors"
	"testing"

	"rollback/api"
)

// faultOf holds that an error wraps the kind, and gives the part that it names.
func faultOf(t *testing.T, err error) string {
	t.Helper()
	var f Fault
	var k api.Kind
	if !errors.As(err, &f) || !errors.As(err, &k) || k != api.ErrPacket || !errors.Is(err, api.ErrPacket) {
		t.Fatalf("P5: %v is no fault with ErrPacket within", err)
	}
	if kind, peer := api.Told(err); kind != api.ErrPacket || peer != -1 {
		t.Errorf("P5: Told(%v) = %v, %d", err, kind, peer)
	}
	return f.Part
}

func TestWriteNamesTheFault(t *testing.T) {
	for _, c := range []struct {
		part string
		p    api.Packet
	}{
		{"from", api.Packet{From: 4, Start: -1, Ack: -1}},
		{"start", api.Packet{Start: 65536, Ack: -1}},
		{"ack", api.Packet{Ack: 65536, Inputs: make([]byte, 65)}},
		{"inputs", api.Packet{Inputs: make([]byte, 65)}},
	} {
		b, err := Write(c.p)
		if got := faultOf(t, err); b != nil || got != c.part {
			t.Errorf("P5: Write(%+v) = %x, fault %q, want %q", c.p, b, got, c.part)
		}
	}
}

func TestReadNamesTheFault(t *testing.T) {
	for _, c := range []struct {
		part string
		b    []byte
	}{
		{"length", nil},
		{"length", []byte{0x52, 0, 0, 0, 0, 0, 0}},
		{"length", []byte{0x52, 0, 0, 0, 0, 0, 1, 9}},
		{"mark", []byte{0x53, 0, 0, 0, 0, 0, 0, 9}},
		{"check", []byte{0x52, 0, 0, 0, 0, 0, 0, 9}},
		{"from", []byte{0x52, 4, 0, 0, 0, 0, 0, 12}},
		{"inputs", append(append([]byte{0x52, 0, 0, 0, 0, 0, 65}, make([]byte, 65)...), 0x49)},
	} {
		_, err := Read(c.b)
		if got := faultOf(t, err); got != c.part {
			t.Errorf("P5: Read(%x): fault %q, want %q", c.b, got, c.part)
		}
	}
}

func TestFaultTells(t *testing.T) {
	if got, want := (Fault{"ack"}).Error(), "ack of a packet: rollback: error 5"; got != want {
		t.Errorf("P5: a fault tells %q, want %q", got, want)
	}
}
