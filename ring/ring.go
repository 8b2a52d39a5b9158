// Package ring: room for the last things of a row that goes on.
package ring

// Ring holds the last things of a numbered row; a new one takes the place of the one that is as many numbers older as the ring has places.
type Ring[T any] struct{ places []T }

// New gives a ring of so many places, each with T's zero value.
func New[T any](places int) Ring[T] {
	return Ring[T]{make([]T, places)}
}

// At gives what was put last at the place of number n, which is not negative.
func (r Ring[T]) At(n int) T { return r.places[n%len(r.places)] }

// Put puts v at the place of number n, which is not negative.
func (r Ring[T]) Put(n int, v T) { r.places[n%len(r.places)] = v }
