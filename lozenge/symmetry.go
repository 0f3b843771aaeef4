package lozenge

import (
	"encaustic/api"
)

// pileOf returns the pile in a box whose number at i, j is number(i, j).
func pileOf(b api.Box, number func(i, j int) int) pile {
	p := pile{box: b}
	for i := range b.A {
		for j := range b.B {
			p.rows[i][j] = number(i, j)
		}
	}
	return p
}

func (p pile) complement() pile {
	b := p.box
	return pileOf(b, func(i, j int) int { return b.C - p.rows[b.A-1-i][b.B-1-j] })
}

func (p pile) transpose() pile {
	b := p.box
	return pileOf(api.Box{A: b.B, B: b.A, C: b.C}, func(j, i int) int { return p.rows[i][j] })
}

func (p pile) turn() pile {
	b := p.box
	return pileOf(api.Box{A: b.C, B: b.A, C: b.B}, func(k, i int) int { return p.rows[i].above(k) })
}

// symmetry returns the change that Fixed calls how, or false if there is none that leads into the same box.
func symmetry(b api.Box, how int) (func(pile) pile, bool) {
	switch {
	case how == 0:
		return func(p pile) pile { return p }, true
	case how == 1:
		return pile.complement, true
	case how == 2 && b.A == b.B:
		return pile.transpose, true
	case how == 3 && b.A == b.B && b.B == b.C:
		return pile.turn, true
	case how == 4 && b.A == b.B:
		return func(p pile) pile { return p.transpose().complement() }, true
	default:
		return nil, false
	}
}

// unchanged counts the heaps of a box that a change leaves as they are.
func unchanged(b api.Box, change func(pile) pile) int {
	count := 0
	for p := range piles(b) {
		if change(p) == p {
			count++
		}
	}
	return count
}
