package snap

import (
	"encaustic/api"
)

// history says what a cut must have: for each station and each number of its first events, how many events of each
// station.
type history [][]counts

// counts has a number of events for each station.
type counts [api.MaxStations]int

// read returns the history of the events of n stations, and the errors that functions with events have.
func read(n int, events []api.Event) (history, api.Errno) {
	if !isSize(n) {
		return nil, api.ErrArg
	}
	if len(events) > api.MaxCut {
		return nil, api.ErrLimit
	}
	h := make(history, n)
	for i := range h {
		h[i] = []counts{{}}
	}
	var sent channels
	for _, e := range events {
		if !isEvent(n, e) || !h.add(e, &sent) {
			return nil, api.ErrArg
		}
	}
	return h, api.OK
}

// isEvent tells whether an event is one of n stations.
func isEvent(n int, e api.Event) bool {
	return e.Station >= 0 && e.Station < n && e.Other >= 0 && e.Other < n && e.What >= api.EventWork && e.What <= api.EventReceive
}

// channels has, for each channel, what is left in it: of each parcel, how many events its sender had done when it was
// sent.
type channels [api.MaxStations][api.MaxStations][]int

// add adds an event; false if it receives a parcel that was not sent.
func (h history) add(e api.Event, sent *channels) bool {
	own := h[e.Station]
	needed := own[len(own)-1]
	switch e.What {
	case api.EventSend:
		way := &sent[e.Station][e.Other]
		*way = append(*way, len(own))
	case api.EventReceive:
		way := &sent[e.Other][e.Station]
		if len(*way) == 0 {
			return false
		}
		needed[e.Other] = max(needed[e.Other], (*way)[0])
		*way = (*way)[1:]
	}
	h[e.Station] = append(own, needed)
	return true
}

// isCut tells whether a cut of as many numbers as there are stations has no more events than these have done.
func (h history) isCut(cut []int) bool {
	for i, count := range cut {
		if count < 0 || count >= len(h[i]) {
			return false
		}
	}
	return true
}

// isConsistent tells whether a cut has what it must have.
func (h history) isConsistent(cut []int) bool {
	for i, count := range cut {
		for other, needed := range h[i][count][:len(cut)] {
			if needed > cut[other] {
				return false
			}
		}
	}
	return true
}

// ideals goes through all cuts: with MaxCut events at MaxStations stations there are at most 13 to the power of 5.
func (h history) ideals() int {
	cut := make([]int, len(h))
	count := 0
	for more := true; more; more = h.next(cut) {
		if h.isConsistent(cut) {
			count++
		}
	}
	return count
}

// next makes another cut of a cut, as one counts; false if it was the last one.
func (h history) next(cut []int) bool {
	for i := range cut {
		cut[i]++
		if cut[i] < len(h[i]) {
			return true
		}
		cut[i] = 0
	}
	return false
}
