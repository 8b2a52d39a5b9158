// Package wire: the network between peers: packets that are under way, and time.
package wire

import (
	"cmp"
	"container/heap"
	"slices"

	"rollback/api"
)

const (
	usualLag = 1
	lost     = -1
)

// Wire carries packets; its zero value is one without lags, at time 0.
type Wire struct {
	lags []int
	now  int
	sent int // the lost ones too: each takes its turn
	way  queue
}

// New gives a wire whose packets take these lags in turn.
func New(lags []int) Wire {
	return Wire{lags: append([]int(nil), lags...)}
}

// Now tells the time.
func (w *Wire) Now() int { return w.now }

// Pass lets time go on by one.
func (w *Wire) Pass() { w.now++ }

// Send puts bytes, which are the wire's from now on, on their way, or loses them.
func (w *Wire) Send(to int, b []byte) {
	lag := w.lag()
	if lag != lost {
		heap.Push(&w.way, parcel{api.Flight{To: to, Due: w.now + lag, Bytes: b}, w.sent})
	}
	w.sent++
}

func (w *Wire) lag() int {
	if len(w.lags) == 0 {
		return usualLag
	}
	return w.lags[w.sent%len(w.lags)]
}

// Come takes the next packet off the wire; false, if none is due.
func (w *Wire) Come() (api.Flight, bool) {
	if len(w.way) == 0 || w.way[0].Due > w.now {
		return api.Flight{}, false
	}
	return heap.Pop(&w.way).(parcel).Flight, true
}

// Flights tells the packets under way, in the order in which they will come, as the caller's own.
func (w *Wire) Flights() []api.Flight {
	sorted := slices.SortedFunc(slices.Values(w.way), order)
	flights := make([]api.Flight, len(sorted))
	for i, p := range sorted {
		flights[i] = p.Flight
		flights[i].Bytes = slices.Clone(p.Bytes)
	}
	return flights
}

// parcel is a packet under way; its turn tells it from those that are due at once.
type parcel struct {
	api.Flight
	turn int
}

func order(a, b parcel) int {
	return cmp.Or(cmp.Compare(a.Due, b.Due), cmp.Compare(a.turn, b.turn))
}
