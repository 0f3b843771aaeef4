package pattern

import (
	"slices"

	"encaustic/api"
)

// group is all symmetries of a floor. Two of one kind differ by a translation that is a symmetry too: so each kind has
// one class or none, and moves has one symmetry for each class.
type group struct {
	grid  api.Grid
	moves []api.Move
}

func groupOf(p floor) group {
	s := group{grid: p.lattice()}
	for k := range kinds {
		s.moves = append(s.moves, p.ofClass(k, s.grid)...)
	}
	return s
}

// ofClass returns the symmetry of a kind, if there is one, that takes the cell 0, 0 into the period.
func (p floor) ofClass(kind int, g api.Grid) []api.Move {
	for e := range g.A {
		for f := range g.D {
			if m := ofKind(kind, e, f); p.keeps(m) {
				return []api.Move{m}
			}
		}
	}
	return nil
}

// of returns the symmetry of a kind in moves, if there is one.
func (s group) of(kind int) (api.Move, bool) {
	i := slices.IndexFunc(s.moves, func(m api.Move) bool { return kindOf(m) == kind })
	if i < 0 {
		return api.Move{}, false
	}
	return s.moves[i], true
}

// has tells whether the move, of one of the kinds, is a symmetry.
func (s group) has(m api.Move) bool {
	own, ok := s.of(kindOf(m))
	return ok && s.home(api.Cell{X: m.E - own.E, Y: m.F - own.F}) == api.Cell{}
}

// home is the one cell of the period to which translations of the lattice take a cell.
func (s group) home(c api.Cell) api.Cell {
	x := modulo(c.X, s.grid.A)
	steps := (c.X - x) / s.grid.A
	return api.Cell{X: x, Y: modulo(c.Y-steps*s.grid.B, s.grid.D)}
}

// cells is the number of cells of the period.
func (s group) cells() int { return s.grid.A * s.grid.D }
