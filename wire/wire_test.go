package wire

import (
	"math/rand"
	"slices"
	"testing"

	"rollback/api"
)

// names gives the first bytes of packets: what a test calls them.
func names(flights []api.Flight) string {
	s := ""
	for _, f := range flights {
		s += string(f.Bytes[:1])
	}
	return s
}

func send(w *Wire, text string) {
	for i := range text {
		w.Send(i%4, []byte(text[i:i+1]))
	}
}

func come(w *Wire) string {
	var all []api.Flight
	for f, ok := w.Come(); ok; f, ok = w.Come() {
		all = append(all, f)
	}
	return names(all)
}

func TestTheUsualLagIsOne(t *testing.T) {
	for name, w := range map[string]Wire{"nil": New(nil), "none": New([]int{}), "zero value": {}} {
		send(&w, "ab")
		if f := w.Flights(); w.Now() != 0 || names(f) != "ab" || f[0].Due != 1 || f[1].Due != 1 || f[1].To != 1 {
			t.Errorf("P8: %s: under way: %v", name, f)
		}
		if got := come(&w); got != "" {
			t.Errorf("P10: %s: %s came ahead of time", name, got)
		}
		w.Pass()
		if got := come(&w); got != "ab" || w.Now() != 1 || len(w.Flights()) != 0 {
			t.Errorf("P10: %s: %s came", name, got)
		}
	}
}

func TestLagsInTurn(t *testing.T) {
	w := New([]int{3, -1, 0, 1})
	send(&w, "abcdefghi") // b and f are lost
	if got := names(w.Flights()); got != "cgdhaei" {
		t.Errorf("P8, P10: under way: %s", got)
	}
	for _, want := range []string{"cgdh", "", "aei", ""} {
		w.Pass()
		if got := come(&w); got != want {
			t.Errorf("P10: at %d came %q, want %q", w.Now(), got, want)
		}
	}
	send(&w, "j") // the ninth had the first lag, this one has the second
	if got := names(w.Flights()); got != "" {
		t.Errorf("P8: under way: %s", got)
	}
}

func TestOrderOfMany(t *testing.T) {
	r := rand.New(rand.NewSource(1))
	for range 200 {
		lags := make([]int, 1+r.Intn(api.MaxLags))
		for i := range lags {
			lags[i] = r.Intn(api.MaxLag+2) - 1
		}
		w := New(lags)
		var all []api.Flight
		sent := 0
		for range 30 {
			for range r.Intn(20) {
				b := []byte{byte(sent), byte(sent >> 8)}
				if lag := lags[sent%len(lags)]; lag >= 0 {
					all = append(all, api.Flight{To: sent % 4, Due: w.Now() + lag, Bytes: b})
				}
				w.Send(sent%4, slices.Clone(b))
				sent++
			}
			w.Pass()
			slices.SortStableFunc(all, func(a, b api.Flight) int { return a.Due - b.Due })
			if !slices.EqualFunc(w.Flights(), all, sameFlight) {
				t.Fatalf("P10: under way: %v, want %v", w.Flights(), all)
			}
			for f, ok := w.Come(); ok; f, ok = w.Come() {
				if f.Due > w.Now() || !sameFlight(f, all[0]) {
					t.Fatalf("P10: %v came at %d, want %v", f, w.Now(), all[0])
				}
				all = all[1:]
			}
			if len(all) > 0 && all[0].Due <= w.Now() {
				t.Fatalf("P10: %v did not come at %d", all[0], w.Now())
			}
		}
	}
}

func sameFlight(a, b api.Flight) bool {
	return a.To == b.To && a.Due == b.Due && string(a.Bytes) == string(b.Bytes)
}

func TestLagsAreCopied(t *testing.T) {
	lags := []int{2, 2, 7}[:2]
	w := New(lags)
	lags[0], lags[1] = -1, -1
	send(&w, "abc")
	for _, f := range w.Flights() {
		if f.Due != 2 {
			t.Errorf("P2: due at %d: the lags are kept", f.Due)
		}
	}
	if lags[:3][2] != 7 {
		t.Errorf("P2: the room behind the lags was written")
	}
}

func TestWhatHasComeIsNotKept(t *testing.T) {
	w := New([]int{0})
	send(&w, "abc")
	w.Pass()
	come(&w)
	for i, p := range w.way[:3] {
		if p.Bytes != nil {
			t.Errorf("P10: place %d still has its bytes", i)
		}
	}
}
