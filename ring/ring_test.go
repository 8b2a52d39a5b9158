package ring

import "testing"

func TestRingKeepsTheLast(t *testing.T) {
	for places := 1; places <= 9; places++ {
		r := New[int](places)
		for n := range 40 {
			r.Put(n, 100+n)
			for back := range min(places, n+1) {
				if got := r.At(n - back); got != 100+n-back {
					t.Errorf("P7: of %d places, behind %d: At(%d) = %d", places, n, n-back, got)
				}
			}
		}
	}
}

func TestRingBeginsWithZeroValues(t *testing.T) {
	r := New[[2]byte](3)
	for n := range 7 {
		if r.At(n) != [2]byte{} {
			t.Errorf("P7: At(%d) of a new ring = %v", n, r.At(n))
		}
	}
}

func TestRingsAreApart(t *testing.T) {
	a, b := New[string](2), New[string](2)
	a.Put(0, "a")
	if b.At(0) != "" {
		t.Errorf("P2: a ring hangs on another")
	}
}
