package domino

import (
	"encaustic/api"
)

// mates has, at the place of each cell, the cell that it is paired with, or the empty set.
type mates [api.MaxSide * api.MaxSide]set

// pair pairs as many cells of s as possible with neighbours in s.
func pair(s set) mates {
	var mate mates
	var seen set
	var search func(c set) bool
	// search finds a mate for the black cell c, if need be one whose own mate finds another one.
	search = func(c set) bool {
		for {
			white := (neighbours(c) & s &^ seen).first()
			if white == 0 {
				return false
			}
			seen |= white
			rival := mate[white.place()]
			if rival == 0 || search(rival) {
				mate[white.place()], mate[c.place()] = c, white
				return true
			}
		}
	}
	for _, c := range (s & black).singles() {
		seen = 0
		search(c)
	}
	return mate
}

// alone returns the cells of s that have no mate.
func alone(s set, mate mates) set {
	var lone set
	for _, c := range s.singles() {
		if mate[c.place()] == 0 {
			lone |= c
		}
	}
	return lone
}

func canBeTiled(s set) bool {
	return alone(s, pair(s)) == 0
}

// refusalOf returns cells of s of one colour that have fewer neighbours in s than they are, or none if s can be tiled.
// It collects from a lone cell on the mates of all neighbours: they all have mates, since otherwise more cells could
// have been paired. So at the end the neighbours are as many as the cells without the lone one.
func refusalOf(s set) set {
	mate := pair(s)
	refusal := alone(s, mate).first()
	for {
		more := refusal
		for _, c := range (neighbours(refusal) & s).singles() {
			more |= mate[c.place()]
		}
		if more == refusal {
			return refusal
		}
		refusal = more
	}
}

// refutes compares bits to tell the order: that of a later cell is greater than those of all earlier cells together.
func refutes(s set, cells []api.Cell) bool {
	var group set
	for _, c := range cells {
		next := cell(c.X, c.Y)
		if s&next == 0 || next <= group {
			return false
		}
		group |= next
	}
	if group&black != 0 && group&^black != 0 {
		return false
	}
	return (neighbours(group) & s).size() < group.size()
}
