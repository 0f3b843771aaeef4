package domino

import (
	"math/bits"

	"encaustic/api"
)

// set is a set of cells, a bit for each, with MaxSide bits a row: in the order of the bits cells are in reading order.
type set uint64

const (
	leftmost  set = 0x0101010101010101
	rightmost set = 0x8080808080808080
	black     set = 0xAA55AA55AA55AA55
)

// cell returns the set of one cell, and the empty one for a place where no region has a cell.
func cell(x, y int) set {
	if x < 0 || x >= api.MaxSide || y < 0 || y >= api.MaxSide {
		return 0
	}
	return set(1) << (y*api.MaxSide + x)
}

// size returns the number of cells of s.
func (s set) size() int {
	return bits.OnesCount64(uint64(s))
}

// first returns the first cell of s in reading order, as a set; the empty set has none.
func (s set) first() set {
	return s & -s
}

// place returns the number of the first cell of s among all MaxSide * MaxSide places.
func (s set) place() int {
	return bits.TrailingZeros64(uint64(s))
}

// at returns where the first cell of s is.
func (s set) at() api.Cell {
	return api.Cell{X: s.place() % api.MaxSide, Y: s.place() / api.MaxSide}
}

// singles returns the cells of s in reading order, each as a set of its own.
func (s set) singles() []set {
	var singles []set
	for s != 0 {
		singles = append(singles, s.first())
		s &^= s.first()
	}
	return singles
}

// list returns the cells of s in reading order.
func (s set) list() []api.Cell {
	var cells []api.Cell
	for _, c := range s.singles() {
		cells = append(cells, c.at())
	}
	return cells
}

// right returns the cells that are one to the right of those of s; what would lie outside of every region is left out,
// here and in the functions like it.
func right(s set) set {
	return (s &^ rightmost) << 1
}

func left(s set) set {
	return (s &^ leftmost) >> 1
}

func below(s set) set {
	return s << api.MaxSide
}

func above(s set) set {
	return s >> api.MaxSide
}

// neighbours returns the cells that share a side with one of s.
func neighbours(s set) set {
	return left(s) | right(s) | above(s) | below(s)
}

// around returns the cells that share a side or a corner with one of s, and may return cells of s too.
func around(s set) set {
	wide := s | left(s) | right(s)
	return wide | above(wide) | below(wide)
}
