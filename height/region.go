package height

import (
	"iter"

	"encaustic/api"
	"encaustic/domino"
)

// region is a plain region. It keeps the caller's strings, but only for the time of a call.
type region struct {
	width, height int
	rows          []string
}

// point is a corner of cells.
type point struct{ x, y int }

// edge is an edge of a region, with the cells on the left and on the right hand of one who goes along it.
type edge struct {
	to          point
	left, right api.Cell
}

// read returns ErrArg if r is not a region, and ErrState if it is not plain.
func read(r []string) (region, api.Errno) {
	parts, e := domino.Parts(r)
	if e != api.OK {
		return region{}, e
	}
	holes, e := domino.Holes(r)
	if e != api.OK {
		return region{}, e
	}
	g := region{width: len(r[0]), height: len(r), rows: r}
	if len(parts) != 1 || holes != 0 || g.touchesItself() {
		return region{}, api.ErrState
	}
	return g, api.OK
}

// has tells whether a cell, which may be anywhere, is in the region.
func (g region) has(c api.Cell) bool {
	return 0 <= c.X && c.X < g.width && 0 <= c.Y && c.Y < g.height && g.rows[c.Y][c.X] == '#'
}

// size returns the number of points, and place the number of one of them.
func (g region) size() int {
	return (g.width + 1) * (g.height + 1)
}

func (g region) place(p point) int {
	return p.y*(g.width+1) + p.x
}

// points returns all points in reading order.
func (g region) points() iter.Seq[point] {
	return func(yield func(point) bool) {
		for y := range g.height + 1 {
			for x := range g.width + 1 {
				if !yield(point{x, y}) {
					return
				}
			}
		}
	}
}

// corners returns the points that are corners of cells of the region, in reading order.
func (g region) corners() iter.Seq[point] {
	return func(yield func(point) bool) {
		for p := range g.points() {
			if g.isCorner(p) && !yield(p) {
				return
			}
		}
	}
}

// edges returns the edges of the region that lead away from a point.
func (g region) edges(p point) iter.Seq[edge] {
	return func(yield func(edge) bool) {
		cells := around(p)
		for i, to := range [4]point{{p.x + 1, p.y}, {p.x, p.y + 1}, {p.x - 1, p.y}, {p.x, p.y - 1}} {
			e := edge{to: to, left: cells[i], right: cells[(i+1)%4]}
			if (g.has(e.left) || g.has(e.right)) && !yield(e) {
				return
			}
		}
	}
}

// around returns the cells around a point: the one up and to the right, and from there on clockwise.
func around(p point) [4]api.Cell {
	return [4]api.Cell{{X: p.x, Y: p.y - 1}, {X: p.x, Y: p.y}, {X: p.x - 1, Y: p.y}, {X: p.x - 1, Y: p.y - 1}}
}

func (g region) isCorner(p point) bool {
	for _, c := range around(p) {
		if g.has(c) {
			return true
		}
	}
	return false
}

// touchesItself tells whether there is a point around which just two opposite cells are in the region.
func (g region) touchesItself() bool {
	for p := range g.points() {
		c := around(p)
		one, other := g.has(c[0]), g.has(c[1])
		if one != other && g.has(c[2]) == one && g.has(c[3]) == other {
			return true
		}
	}
	return false
}

// rise returns how much the height grows along an edge that is not crossed.
func (e edge) rise() int {
	if (e.left.X+e.left.Y)%2 == 0 {
		return 1
	}
	return -1
}

// crossedRise returns how much the height grows along an edge that is crossed. Who goes around one of its cells comes
// back to the same height, and the three other sides, which are not crossed, all rise or all fall by 1.
func (e edge) crossedRise() int {
	return -3 * e.rise()
}
