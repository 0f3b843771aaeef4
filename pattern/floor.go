package pattern

import (
	"encaustic/api"
)

// floor is a pattern, for what it repeats without end.
type floor []string

func isPattern(p []string) bool {
	if len(p) < 1 || len(p) > api.MaxPeriod || len(p[0]) < 1 || len(p[0]) > api.MaxPeriod {
		return false
	}
	for _, row := range p {
		if len(row) != len(p[0]) || !isColoured(row) {
			return false
		}
	}
	return true
}

func isColoured(row string) bool {
	for i := range len(row) {
		if row[i] < 'a' || row[i] > 'd' {
			return false
		}
	}
	return true
}

// modulo is the remainder from 0 to n - 1.
func modulo(a, n int) int { return (a%n + n) % n }

// at is the colour of a cell, wherever it is.
func (p floor) at(c api.Cell) byte {
	row := p[modulo(c.Y, len(p))]
	return row[modulo(c.X, len(row))]
}

// keeps tells whether the floor has the same colours after the move. A move may exchange columns and rows; so the cells
// of a square are compared that repeats in both directions before the move, and after it.
func (p floor) keeps(m api.Move) bool {
	side := len(p)
	for side%len(p[0]) != 0 {
		side += len(p)
	}
	for y := range side {
		for x := range side {
			c := api.Cell{X: x, Y: y}
			if p.at(c) != p.at(take(m, c)) {
				return false
			}
		}
	}
	return true
}

// lattice finds the first translation downwards, and then the first one into a column on the right. It ends at the
// measures of the pattern at the latest.
func (p floor) lattice() api.Grid {
	down := 1
	for !p.keeps(ofKind(0, 0, down)) {
		down++
	}
	for right := 1; ; right++ {
		for y := range down {
			if p.keeps(ofKind(0, right, y)) {
				return api.Grid{A: right, B: y, D: down}
			}
		}
	}
}

// moved is the floor's pattern after the move.
func (p floor) moved(m api.Move) []string {
	w, h := len(p[0]), len(p)
	if m.A == 0 {
		w, h = h, w
	}
	return written(w, h, func(c api.Cell) byte { return p.at(takeBack(m, c)) })
}

// smallest is a beginning of the pattern: the translations along a row and those along a column say how much.
func (p floor) smallest() []string {
	w, h := 1, 1
	for !p.keeps(ofKind(0, w, 0)) {
		w++
	}
	for !p.keeps(ofKind(0, 0, h)) {
		h++
	}
	return written(w, h, p.at)
}

// written writes down the colours of the cells of a rectangle at 0, 0.
func written(w, h int, colour func(api.Cell) byte) []string {
	rows := make([]string, h)
	for y := range rows {
		row := make([]byte, w)
		for x := range row {
			row[x] = colour(api.Cell{X: x, Y: y})
		}
		rows[y] = string(row)
	}
	return rows
}
