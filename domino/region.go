package domino

import (
	"encaustic/api"
)

// region is what the strings of a region say: its measures, its cells, and the places that are none.
type region struct {
	width, height int
	cells, gaps   set
}

// read returns false if r is not a region.
func read(r []string) (region, bool) {
	if len(r) < 1 || len(r) > api.MaxSide || len(r[0]) < 1 || len(r[0]) > api.MaxSide {
		return region{}, false
	}
	g := region{width: len(r[0]), height: len(r)}
	for y, row := range r {
		if len(row) != g.width {
			return region{}, false
		}
		for x := range g.width {
			switch row[x] {
			case '#':
				g.cells |= cell(x, y)
			case '.':
				g.gaps |= cell(x, y)
			default:
				return region{}, false
			}
		}
	}
	return g, true
}

// draw returns the region of the same measures that has the cells of s.
func (g region) draw(s set) []string {
	rows := make([]string, g.height)
	for y := range rows {
		row := make([]byte, g.width)
		for x := range row {
			row[x] = '.'
			if s&cell(x, y) != 0 {
				row[x] = '#'
			}
		}
		rows[y] = string(row)
	}
	return rows
}

// rim returns the places at the edge of the rectangle, from which one step leads out of it.
func (g region) rim() set {
	var rim set
	for y := range g.height {
		for x := range g.width {
			if x == 0 || y == 0 || x == g.width-1 || y == g.height-1 {
				rim |= cell(x, y)
			}
		}
	}
	return rim
}
