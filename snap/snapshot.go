package snap

import (
	"slices"

	"encaustic/api"
)

// snapshot has a record for each station.
type snapshot []record

// record is what a station has recorded for a snapshot: whether it did so yet, its pieces and how many events it had
// done then, and for each other station whether it still listens to the channel from there, and what it heard by it.
type record struct {
	made           bool
	pieces, events int
	open           [api.MaxStations]bool
	heard          [api.MaxStations][]int
}

// hear records a parcel from another station, if its channel is listened to.
func (r *record) hear(from, pieces int) {
	if r.open[from] {
		r.heard[from] = append(r.heard[from], pieces)
	}
}

// isDone tells whether the station has recorded and listens to no channel any more.
func (r *record) isDone() bool {
	return r.made && r.open == [api.MaxStations]bool{}
}

// record lets a station record for a snapshot.
func (t *Net) record(no, at int) {
	own, r := t.stations[at], &t.snapshots[no-1][at]
	r.made, r.pieces, r.events = true, own.pieces, own.clock[at]
	for other := range t.stations {
		if other != at {
			r.open[other] = true
			t.put(at, other, marker{no})
		}
	}
}

// heed does what a marker asks for that a station has received.
func (t *Net) heed(from, to int, m marker) {
	r := &t.snapshots[m.no-1][to]
	if !r.made {
		t.record(m.no, to)
	}
	r.open[from] = false
}

// find returns the snapshot with a number; ErrNil if there is no net, ErrNone if there is no such snapshot.
func (t *Net) find(no int) (snapshot, api.Errno) {
	if t.isNone() {
		return nil, api.ErrNil
	}
	if no < 1 || no > len(t.snapshots) {
		return nil, api.ErrNone
	}
	return t.snapshots[no-1], api.OK
}

// findDone returns the snapshot with a number as find does; ErrState if it is not done.
func (t *Net) findDone(no int) (snapshot, api.Errno) {
	s, e := t.find(no)
	if e == api.OK && !s.isDone() {
		return nil, api.ErrState
	}
	return s, e
}

func (s snapshot) isDone() bool {
	for i := range s {
		if !s[i].isDone() {
			return false
		}
	}
	return true
}

// show returns the snapshot as others see it, in new memory.
func (s snapshot) show() api.Snapshot {
	var shown api.Snapshot
	for from := range s {
		under := make([][]int, len(s))
		for to := range s {
			under[to] = slices.Clone(s[to].heard[from])
		}
		shown.Pieces = append(shown.Pieces, s[from].pieces)
		shown.Under = append(shown.Under, under)
	}
	return shown
}

func (s snapshot) cut() []int {
	list := make([]int, len(s))
	for i, r := range s {
		list[i] = r.events
	}
	return list
}

// copied returns a snapshot that shares nothing with s.
func (s snapshot) copied() snapshot {
	c := slices.Clone(s)
	for i := range c {
		for from, heard := range c[i].heard {
			c[i].heard[from] = slices.Clone(heard)
		}
	}
	return c
}
