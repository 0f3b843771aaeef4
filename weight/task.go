package weight

import (
	"math/bits"
)

// task is to find coefficients of pieces with which they fill a goal. Pieces and the goal are lists of places, in which a
// place counts as often as it stands there.
type task struct {
	size   int // places are the numbers below it
	pieces [][]int
	goal   []int
}

// tilings is asked only of floors: there the places of a piece are in order, and all places are the goal. It goes through
// the sets of places that may be covered, each after all sets that are part of it; the next piece must begin with the
// first place that is missing.
func (t task) tilings() int {
	startingAt := make([][]int, t.size)
	for _, piece := range t.pieces {
		startingAt[piece[0]] = append(startingAt[piece[0]], setOf(piece))
	}
	ways := make([]int, 1<<t.size)
	ways[0] = 1
	last := len(ways) - 1
	for covered := range last {
		if ways[covered] == 0 {
			continue
		}
		for _, piece := range startingAt[firstMissing(covered)] {
			if covered&piece == 0 {
				ways[covered|piece] += ways[covered]
			}
		}
	}
	return ways[last]
}

// setOf returns the set of places, with a bit for each.
func setOf(places []int) int {
	set := 0
	for _, p := range places {
		set |= 1 << p
	}
	return set
}

// firstMissing returns the first place that is not in a set.
func firstMissing(set int) int {
	return bits.TrailingZeros(^uint(set))
}

// coloured returns the task whose places are the colours of the places of this one.
func (t task) coloured(colours []int, n int) task {
	next := task{size: n, goal: colouring(t.goal, colours)}
	for _, piece := range t.pieces {
		next.pieces = append(next.pieces, colouring(piece, colours))
	}
	return next
}

func colouring(places, colours []int) []int {
	list := make([]int, len(places))
	for i, p := range places {
		list[i] = colours[p]
	}
	return list
}
