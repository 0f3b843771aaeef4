package weight

import (
	"encaustic/api"
)

// areWeights tells whether w is as weights of the floor must be; their sums cannot overflow then.
func (f floor) areWeights(w api.Weights) bool {
	if len(w.Num) != f.size || w.Den < 1 || w.Den > api.MaxDen {
		return false
	}
	for _, n := range w.Num {
		if n < -api.MaxDen || n > api.MaxDen {
			return false
		}
	}
	return true
}

// weightsOf returns the numerators of weights.
func weightsOf(w api.Weights) combination[whole] {
	weights := make(combination[whole], len(w.Num))
	for i, n := range w.Num {
		weights[i] = whole(n)
	}
	return weights
}

// give tells whether weights give to each piece, and to the goal, what each of them should have.
func (t task) give(weights combination[whole], toPiece, toGoal func(whole) bool) bool {
	for _, piece := range t.pieces {
		if !toPiece(weights.of(piece)) {
			return false
		}
	}
	return toGoal(weights.of(t.goal))
}

// denominator returns the least one that all numbers of a combination can have.
func denominator(c combination[ratio]) int {
	den := 1
	for _, n := range c {
		den = multiple(den, n.denominator())
	}
	return den
}

// show returns the numbers of a combination in lowest terms.
func show(c combination[ratio]) api.Weights {
	w := api.Weights{Num: make([]int, len(c)), Den: denominator(c)}
	for i, n := range c {
		w.Num[i] = n.over(w.Den)
	}
	return w
}
