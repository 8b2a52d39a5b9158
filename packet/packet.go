// Package packet: how what peers send is written as bytes and read from them.
package packet

import (
	"bytes"

	"rollback/api"
)

// Where a packet's parts begin; the check is its last byte.
const (
	fromAt   = 1
	startAt  = 2
	ackAt    = 4
	countAt  = 6
	inputsAt = 7
	least    = inputsAt + 1
)

const (
	mark       = 0x52
	checkStart = 0x5a
	maxNumber  = 1<<16 - 1
)

// Write gives a packet's bytes, or a Fault.
func Write(p api.Packet) ([]byte, error) {
	if err := checkParts(p); err != nil {
		return nil, err
	}
	b := make([]byte, 0, least+len(p.Inputs))
	b = append(b, mark, byte(p.From))
	b = appendNumber(b, p.Start)
	b = appendNumber(b, p.Ack)
	b = append(b, byte(len(p.Inputs)))
	b = append(b, p.Inputs...)
	return append(b, sum(b)), nil
}

// Read gives the packet that Write would make b of, or a Fault.
func Read(b []byte) (api.Packet, error) {
	if err := checkBytes(b); err != nil {
		return api.Packet{}, err
	}
	p := api.Packet{
		From:   int(b[fromAt]),
		Start:  number(b[startAt:]),
		Ack:    number(b[ackAt:]),
		Inputs: bytes.Clone(b[inputsAt : len(b)-1]),
	}
	if err := checkParts(p); err != nil {
		return api.Packet{}, err
	}
	return p, nil
}

// checkParts names the part that is too great or too small for its place in the bytes.
func checkParts(p api.Packet) error {
	switch {
	case p.From < 0 || p.From >= api.MaxPlayers:
		return Fault{"from"}
	case p.Start < 0 || p.Start > maxNumber:
		return Fault{"start"}
	case p.Ack < 0 || p.Ack > maxNumber:
		return Fault{"ack"}
	case len(p.Inputs) > api.MaxBatch:
		return Fault{"inputs"}
	}
	return nil
}

// checkBytes looks at what Write lays about a packet's parts; only once it is content is each part at its place.
func checkBytes(b []byte) error {
	switch {
	case len(b) < least || len(b) != least+int(b[countAt]):
		return Fault{"length"}
	case b[0] != mark:
		return Fault{"mark"}
	case b[len(b)-1] != sum(b[:len(b)-1]):
		return Fault{"check"}
	}
	return nil
}

func appendNumber(b []byte, n int) []byte {
	return append(b, byte(n>>8), byte(n))
}

func number(b []byte) int {
	return int(b[0])<<8 | int(b[1])
}

func sum(b []byte) byte {
	v := byte(checkStart)
	for _, x := range b {
		v ^= x
	}
	return v
}
