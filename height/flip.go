package height

import (
	"math"

	"encaustic/api"
	"encaustic/domino"
)

// lift returns what a flip adds to the height of a point: 0 if there is no square around it. Along the four edges of a
// point in turn the rise changes its sign; so if all next points are higher, or all are lower, every other edge is
// crossed, and that is a square. At the rim of the region that cannot be, since two edges of the rim, never crossed,
// are neighbours there.
func (f floor) lift(p point) int {
	higher, lower := 0, 0
	for e := range f.edges(p) {
		if f.at(e.to) > f.at(p) {
			higher++
		} else {
			lower++
		}
	}
	switch {
	case higher == 4:
		return 4
	case lower == 4:
		return -4
	default:
		return 0
	}
}

// squares returns the first cells of all squares in reading order.
func (f floor) squares() []api.Cell {
	var cells []api.Cell
	for p := range f.corners() {
		if f.lift(p) != 0 {
			cells = append(cells, firstCell(p))
		}
	}
	return cells
}

// firstCell returns the first one of the four cells around a point.
func firstCell(p point) api.Cell {
	return api.Cell{X: p.x - 1, Y: p.y - 1}
}

// flipTowards flips wherever that takes a height nearer to its goal, until there is no such place, and returns the
// first cells of the squares. If the goal are the heights of a tiling, it ends there: of the points that are too high
// the highest is higher than all points around it, since a point above it would have reached its goal, and the goals
// of two neighbours differ by no more than their heights can; and so with those that are too low.
func (f floor) flipTowards(goal func(point) int) []api.Cell {
	var way []api.Cell
	for {
		done := len(way)
		for p := range f.corners() {
			lift := f.lift(p)
			if lift > 0 && f.at(p) < goal(p) || lift < 0 && f.at(p) > goal(p) {
				f.heights[f.place(p)] += lift
				way = append(way, firstCell(p))
			}
		}
		if len(way) == done {
			return way
		}
	}
}

// outermost returns the floor beyond which no flip leads in one direction: the least one if the goal of all heights is
// as low as can be, the greatest one if it is as high as can be.
func outermost(r []string, goal int) (floor, api.Errno) {
	g, e := read(r)
	if e != api.OK {
		return floor{}, e
	}
	t, e := domino.Tile(r)
	if e != api.OK {
		return floor{}, e
	}
	f := g.cover(t)
	f.flipTowards(func(point) int { return goal })
	return f, api.OK
}

func least(r []string) (floor, api.Errno) {
	return outermost(r, math.MinInt)
}

func greatest(r []string) (floor, api.Errno) {
	return outermost(r, math.MaxInt)
}

// distance returns the number of flips between two floors: each changes one height by 4.
func (f floor) distance(g floor) int {
	sum := 0
	for i := range f.heights {
		sum += max(f.heights[i], g.heights[i]) - min(f.heights[i], g.heights[i])
	}
	return sum / 4
}
