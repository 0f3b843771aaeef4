package sample

import (
	"slices"
	"strings"

	"encaustic/api"
	"encaustic/height"
)

// floor is a plain region with a tiling, which is kept as its heights. It keeps the caller's strings, but only for the
// time of a call.
type floor struct {
	rows    []string
	heights api.Heights
}

// lay returns the floor of a tiling, and the errors of layer 3.
func lay(r []string, t []api.Domino) (floor, api.Errno) {
	h, e := height.Of(r, t)
	if e != api.OK {
		return floor{}, e
	}
	return floor{r, h}, api.OK
}

// layOutermost returns the floor of the tiling that height.Least or height.Greatest finds.
func layOutermost(r []string, find func([]string) ([]api.Domino, api.Errno)) (floor, api.Errno) {
	t, e := find(r)
	if e != api.OK {
		return floor{}, e
	}
	return lay(r, t)
}

// copied returns a floor of its own, on which moves leave this one as it is.
func (f floor) copied() floor {
	f.heights.Values = slices.Clone(f.heights.Values)
	return f
}

func (f floor) tiling() []api.Domino {
	t, _ := height.Tiling(f.rows, f.heights)
	return t
}

// nudge makes a move, and returns what it adds to the height of its point. There is a square around a point within the
// region if all four points next to it are higher, or all are lower; turned, it takes the point to the other side of
// them, by 4.
func (f floor) nudge(m api.Nudge) int {
	if !isInner(f.rows, m.X, m.Y) {
		return 0
	}
	values, width := f.heights.Values, f.heights.W+1
	place := m.Y*width + m.X
	for _, near := range [4]int{place - width, place - 1, place + 1, place + width} {
		if (values[near] > values[place]) != m.Up {
			return 0
		}
	}
	lift := -4
	if m.Up {
		lift = 4
	}
	values[place] += lift
	return lift
}

// level returns the sum of all heights.
func (f floor) level() int {
	sum := 0
	for _, v := range f.heights.Values {
		sum += v
	}
	return sum
}

// checkPlain returns ErrArg if r is not a region, and ErrState if it is not plain: these are the errors of Tiling but
// for ErrPlan, which it always has for heights without numbers.
func checkPlain(r []string) api.Errno {
	if _, e := height.Tiling(r, api.Heights{}); e != api.ErrPlan {
		return e
	}
	return api.OK
}

// inner returns the points within a region in reading order.
func inner(r []string) []api.Cell {
	var points []api.Cell
	for y := range r {
		for x := range r[y] {
			if isInner(r, x, y) {
				points = append(points, api.Cell{X: x, Y: y})
			}
		}
	}
	return points
}

// isInner tells whether a point, which may be anywhere, is a corner of four cells.
func isInner(r []string, x, y int) bool {
	if x < 1 || x >= len(r[0]) || y < 1 || y >= len(r) {
		return false
	}
	return strings.HasPrefix(r[y-1][x-1:], "##") && strings.HasPrefix(r[y][x-1:], "##")
}
