package rollback_test

import (
	"bytes"
	"encoding/binary"
	"errors"
	"hash/fnv"
	"math/rand"
	"testing"

	"rollback/api"
	"rollback/plain"
	"rollback/rollback"
)

func digested(t *testing.T, m []byte) uint32 {
	t.Helper()
	d, err := rollback.Digest(m)
	if err != nil {
		t.Fatalf("P4: Digest: %v", err)
	}
	return d
}

func modelFNV(b []byte) uint32 {
	h := fnv.New32a()
	h.Write(b)
	return h.Sum32()
}

// modelDigest is the document's tree once more, from its root downward.
func modelDigest(m []byte, first, leaves int) uint32 {
	if leaves > 1 {
		pair := binary.BigEndian.AppendUint32(nil, modelDigest(m, first, leaves/2))
		return modelFNV(binary.BigEndian.AppendUint32(pair, modelDigest(m, first+leaves/2, leaves/2)))
	}
	if first >= 18 {
		return 0
	}
	return modelFNV(m[16*first : 16*first+16])
}

func TestExamplesOfDigest(t *testing.T) {
	if d := digested(t, played(t, 2)); d != 2135624941 {
		t.Errorf("P4: Digest of Play(2, nothing) = %d", d)
	}
	if d := digested(t, played(t, 2, []byte{4, 3})); d != 2490079405 {
		t.Errorf("P4: Digest of Play(2, [[4 3]]) = %d", d)
	}
}

func TestDigestLikeTheModel(t *testing.T) {
	r := rand.New(rand.NewSource(5))
	for range 300 {
		m := make([]byte, api.Memory)
		r.Read(m)
		if got, want := digested(t, m), modelDigest(m, 0, 32); got != want {
			t.Fatalf("P4: Digest(%v) = %d, want %d", m, got, want)
		}
	}
	for _, b := range []byte{0, 1, 0x80, 0xff} {
		m := bytes.Repeat([]byte{b}, api.Memory)
		if got, want := digested(t, m), modelDigest(m, 0, 32); got != want {
			t.Errorf("P4: Digest of %d again and again = %d, want %d", b, got, want)
		}
	}
}

func TestDigestHangsOnEveryByte(t *testing.T) {
	m := played(t, 3, repeated(20, ahead|paint, left|paint, right|paint)...)
	seen := map[uint32]int{digested(t, m): -1}
	for i := range m {
		m[i] ^= 1
		d := digested(t, m)
		m[i] ^= 1
		if at, ok := seen[d]; ok {
			t.Errorf("P4: with byte %d turned the digest is that of %d", i, at)
		}
		seen[d] = i
	}
}

func TestDigestRefuses(t *testing.T) {
	sizes := []int{0, 1, api.PageSize, 256, api.Memory - api.PageSize, api.Memory - 1, api.Memory + 1, api.Memory + api.PageSize, 512, 2 * api.Memory, 1 << 20}
	for _, n := range sizes {
		d, err := rollback.Digest(make([]byte, n))
		if d != 0 || err != error(api.ErrMemory) || !errors.Is(err, api.ErrMemory) {
			t.Errorf("P1, P4: Digest of %d bytes: %d, %v", n, d, err)
		}
		if d, kind := plain.Digest(make([]byte, n)); d != 0 || kind != api.ErrMemory {
			t.Errorf("P1, P4: Digest of %d bytes, asked by plain: %d, %v", n, d, kind)
		}
	}
	if d, err := rollback.Digest(nil); d != 0 || err != error(api.ErrMemory) {
		t.Errorf("P1, P4: Digest of nil: %d, %v", d, err)
	}
	// room behind the list is no part of it
	if d, err := rollback.Digest(make([]byte, api.Memory-1, api.Memory)); d != 0 || err != error(api.ErrMemory) {
		t.Errorf("P4: Digest of 287 bytes with room for one more: %d, %v", d, err)
	}
}

func TestDigestOnlyReads(t *testing.T) {
	room := make([]byte, api.Memory+64)
	for i := range room {
		room[i] = byte(i * 7)
	}
	before := bytes.Clone(room)
	first := digested(t, room[:api.Memory])
	rollback.Digest(room[:api.Memory-1])
	if !bytes.Equal(room, before) {
		t.Errorf("P2: Digest wrote into what it was handed, or behind it")
	}
	clear(room[api.Memory:])
	if again := digested(t, room[:api.Memory]); again != first {
		t.Errorf("P2: the digest hangs on the room behind the list: %d, %d", first, again)
	}
	room[0]++
	digested(t, room[:api.Memory])
	room[0]--
	if again := digested(t, room[:api.Memory]); again != first {
		t.Errorf("P2: the digest hangs on an earlier call: %d, %d", first, again)
	}
}
