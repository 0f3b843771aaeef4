package pattern

import (
	"encaustic/api"
)

// The numbers of kinds that the names of groups ask for; those from firstMirrored on are the mirrored ones.
const (
	quarterTurn   = 1
	halfTurn      = 2
	firstMirrored = 4
)

// kinds has the moves of all kinds that leave the cell 0, 0 where it is.
var kinds = [...]api.Move{
	{A: 1, B: 0, C: 0, D: 1},
	{A: 0, B: -1, C: 1, D: 0},
	{A: -1, B: 0, C: 0, D: -1},
	{A: 0, B: 1, C: -1, D: 0},
	{A: 1, B: 0, C: 0, D: -1},
	{A: -1, B: 0, C: 0, D: 1},
	{A: 0, B: 1, C: 1, D: 0},
	{A: 0, B: -1, C: -1, D: 0},
}

// kindOf returns the number of a move's kind, or -1.
func kindOf(m api.Move) int {
	m.E, m.F = 0, 0
	for k, own := range kinds {
		if m == own {
			return k
		}
	}
	return -1
}

// ofKind is the move of a kind that takes the cell 0, 0 to e, f.
func ofKind(kind, e, f int) api.Move {
	m := kinds[kind]
	m.E, m.F = e, f
	return m
}

func isMove(m api.Move) bool {
	return kindOf(m) >= 0 && isShift(m.E) && isShift(m.F)
}

func isShift(n int) bool { return n >= -maxShift && n <= maxShift }

// take returns where the move takes a cell.
func take(m api.Move, c api.Cell) api.Cell {
	return api.Cell{X: m.A*c.X + m.B*c.Y + m.E, Y: m.C*c.X + m.D*c.Y + m.F}
}

// takeBack returns the cell that the move, of one of the kinds, takes to c: the kinds are undone by exchanging B and C.
func takeBack(m api.Move, c api.Cell) api.Cell {
	x, y := c.X-m.E, c.Y-m.F
	return api.Cell{X: m.A*x + m.C*y, Y: m.B*x + m.D*y}
}

// mirrorThrough returns the mirror of a kind whose line goes through the point c.X/2, c.Y/2, unless that would take
// cells to where no cells are: x and y are both even or both odd.
func mirrorThrough(kind int, c api.Cell) (api.Move, bool) {
	to := take(kinds[kind], c)
	x, y := c.X-to.X, c.Y-to.Y
	return ofKind(kind, x/2, y/2), x%2 == 0
}
