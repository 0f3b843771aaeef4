package sample

import (
	"sync"

	"encaustic/api"
	"encaustic/height"
)

// ahead is how many moves one walker may be ahead of the other one.
const ahead = 64

// pair is the least and the greatest floor of a region.
type pair struct{ low, high floor }

// start returns the pair from which the moves start, and the errors that functions with a pair have.
func start(r []string, moves []api.Nudge) (pair, api.Errno) {
	low, e := layOutermost(r, height.Least)
	if e != api.OK {
		return pair{}, e
	}
	high, e := layOutermost(r, height.Greatest)
	if e != api.OK {
		return pair{}, e
	}
	if len(moves) > api.MaxMoves {
		return pair{}, api.ErrLimit
	}
	return pair{low, high}, api.OK
}

// walk lets copies of both floors walk through the moves at once. It returns what they are in the end, and after how
// many moves they were the same for the first time; false if they never are. No height of the lower one is ever above
// that of the higher one, so they are the same when they are level; and then they stay the same.
func (p pair) walk(moves []api.Nudge) (floor, int, bool) {
	low, high := p.low.copied(), p.high.copied()
	lows, highs := make(chan int, ahead), make(chan int, ahead)
	var walkers sync.WaitGroup
	walkers.Add(2)
	go low.follow(moves, lows, &walkers)
	go high.follow(moves, highs, &walkers)
	after, ok := meeting(p.high.level()-p.low.level(), lows, highs)
	walkers.Wait()
	if !ok {
		return floor{}, 0, false
	}
	return low, after, true
}

// follow makes all moves, and sends what each one adds to the heights.
func (f floor) follow(moves []api.Nudge, lifts chan<- int, walkers *sync.WaitGroup) {
	defer walkers.Done()
	defer close(lifts)
	for _, m := range moves {
		lifts <- f.nudge(m)
	}
}

// meeting returns after how many moves two floors come to be level, and false if they never do; gap is how much higher
// one of them is at first. It receives all that is sent, so that both walkers come to their end.
func meeting(gap int, lows, highs <-chan int) (int, bool) {
	done, after, ok := 0, 0, gap == 0
	for low := range lows {
		high := <-highs
		gap += high - low
		done++
		if gap == 0 && !ok {
			after, ok = done, true
		}
	}
	return after, ok
}

// depths returns how many of n moves are tried, one after the other.
func depths(n int) []int {
	var list []int
	for k := 1; k < n; k *= 2 {
		list = append(list, k)
	}
	return append(list, n)
}
