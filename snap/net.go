package snap

import (
	"slices"

	"encaustic/api"
)

// station is what a station has now.
type station struct {
	pieces int
	clock  clock
}

// clock has a count for each station, and 0 behind the last one. It is an array, so that parcels and stations never
// share one.
type clock [api.MaxStations]int

// joined has the greater one of both counts for each station.
func (c clock) joined(other clock) clock {
	for i, count := range other {
		c[i] = max(c[i], count)
	}
	return c
}

// isSize tells whether a net may have n stations.
func isSize(n int) bool {
	return n >= 2 && n <= api.MaxStations
}

// isNoStock tells whether a station may not begin with so many pieces.
func isNoStock(pieces int) bool {
	return pieces < 0 || pieces > api.MaxPieces
}

// isLoad tells whether so many pieces may be made or sent at once.
func isLoad(pieces int) bool {
	return pieces >= 1 && pieces <= api.MaxPieces
}

// build returns a net in which nothing was done yet.
func build(pieces []int) *Net {
	t := &Net{}
	for _, p := range pieces {
		t.stations = append(t.stations, station{pieces: p})
		t.channels = append(t.channels, make([][]message, len(pieces)))
	}
	return t
}

// isNone tells whether there is no net, since New did not return it: one from New has stations.
func (t *Net) isNone() bool {
	return t == nil || len(t.stations) == 0
}

func (t *Net) has(station int) bool {
	return station >= 0 && station < len(t.stations)
}

// checkChannel returns ErrNil if there is no net, and ErrArg if there is no such channel.
func (t *Net) checkChannel(from, to int) api.Errno {
	if t.isNone() {
		return api.ErrNil
	}
	if !t.has(from) || !t.has(to) || from == to {
		return api.ErrArg
	}
	return api.OK
}

// isFull tells whether there may be no more events.
func (t *Net) isFull() bool {
	return len(t.events) >= api.MaxEvents
}

func (t *Net) work(at, pieces int) {
	t.stations[at].pieces += pieces
	t.tick(api.Event{Station: at, What: api.EventWork, Other: at, Pieces: pieces})
}

func (t *Net) send(from, to, pieces int) {
	t.stations[from].pieces -= pieces
	t.tick(api.Event{Station: from, What: api.EventSend, Other: to, Pieces: pieces})
	t.put(from, to, parcel{pieces, t.stations[from].clock})
}

// receive adds a parcel to its station, for which it is under way in all snapshots that still listen to the channel. The
// station's own count is joined with that in the parcel too: nobody knows of more events of a station than itself.
func (t *Net) receive(from, to int, p parcel) {
	for _, s := range t.snapshots {
		s[to].hear(from, p.pieces)
	}
	own := &t.stations[to]
	own.pieces += p.pieces
	own.clock = own.clock.joined(p.clock)
	t.tick(api.Event{Station: to, What: api.EventReceive, Other: from, Pieces: p.pieces})
}

// tick counts an event at its station, and keeps it with the clock that the station then has.
func (t *Net) tick(e api.Event) {
	own := &t.stations[e.Station]
	own.clock[e.Station]++
	e.Clock = slices.Clone(own.clock[:len(t.stations)])
	t.events = append(t.events, e)
}

// put adds a message to the end of a channel.
func (t *Net) put(from, to int, m message) {
	t.channels[from][to] = append(t.channels[from][to], m)
}

func (t *Net) total() int {
	sum := 0
	for from, s := range t.stations {
		sum += s.pieces
		for _, waiting := range t.channels[from] {
			sum += load(waiting)
		}
	}
	return sum
}

// load returns the pieces of all parcels in a channel.
func load(waiting []message) int {
	sum := 0
	for _, m := range waiting {
		if p, ok := m.(parcel); ok {
			sum += p.pieces
		}
	}
	return sum
}

// copied shares with t only what is never changed: the messages, and the clocks of events.
func (t *Net) copied() *Net {
	c := &Net{stations: slices.Clone(t.stations), events: slices.Clone(t.events)}
	for _, out := range t.channels {
		var own [][]message
		for _, waiting := range out {
			own = append(own, slices.Clone(waiting))
		}
		c.channels = append(c.channels, own)
	}
	for _, s := range t.snapshots {
		c.snapshots = append(c.snapshots, s.copied())
	}
	return c
}
