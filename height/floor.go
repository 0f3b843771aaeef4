package height

import (
	"slices"

	"encaustic/api"
	"encaustic/domino"
)

// floor is a region with a tiling, which is kept as its heights: a number for each point, 0 for those that are not
// corners of cells.
type floor struct {
	region
	heights []int
}

// lay returns the floor of a tiling, and the errors that all functions with a tiling have.
func lay(r []string, t []api.Domino) (floor, api.Errno) {
	g, e := read(r)
	if e != api.OK {
		return floor{}, e
	}
	if is, _ := domino.Is(r, t); !is {
		return floor{}, api.ErrArg
	}
	return g.cover(t), api.OK
}

// layBoth returns the floors of two tilings.
func layBoth(r []string, s, t []api.Domino) (floor, floor, api.Errno) {
	f, e := lay(r, s)
	if e != api.OK {
		return floor{}, floor{}, e
	}
	g, e := lay(r, t)
	if e != api.OK {
		return floor{}, floor{}, e
	}
	return f, g, api.OK
}

// cover returns the floor with a tiling of the region. It goes from the first corner along all edges, the crossed ones
// too; the heights do not depend on the way.
func (g region) cover(t []api.Domino) floor {
	f := floor{g, make([]int, g.size())}
	joined := joinedCells(t)
	seen := make([]bool, g.size())
	var climb func(p point, height int)
	climb = func(p point, height int) {
		if seen[g.place(p)] {
			return
		}
		seen[g.place(p)] = true
		f.heights[g.place(p)] = height
		for e := range g.edges(p) {
			if joined[[2]api.Cell{e.left, e.right}] {
				climb(e.to, height+e.crossedRise())
			} else {
				climb(e.to, height+e.rise())
			}
		}
	}
	for p := range g.corners() {
		climb(p, 0)
		break
	}
	return f
}

// joinedCells has the two cells of each domino, in both orders.
func joinedCells(t []api.Domino) map[[2]api.Cell]bool {
	joined := map[[2]api.Cell]bool{}
	for _, d := range t {
		first, second := api.Cell{X: d.X, Y: d.Y}, api.Cell{X: d.X + 1, Y: d.Y}
		if d.Down {
			second = api.Cell{X: d.X, Y: d.Y + 1}
		}
		joined[[2]api.Cell{first, second}] = true
		joined[[2]api.Cell{second, first}] = true
	}
	return joined
}

// at returns the height of a point.
func (f floor) at(p point) int {
	return f.heights[f.place(p)]
}

// tiling returns a domino for each edge along which the height changes as along a crossed one. Those of a tiling come in
// reading order: at a point one is found that is Down and begins up and to the right, or one that is not and begins up
// and to the left, and that one covers the cell to the right too.
func (f floor) tiling() []api.Domino {
	var t []api.Domino
	for p := range f.corners() {
		for e := range f.edges(p) {
			if f.at(e.to)-f.at(p) == e.crossedRise() && isBefore(e.left, e.right) {
				t = append(t, api.Domino{X: e.left.X, Y: e.left.Y, Down: e.right.Y > e.left.Y})
			}
		}
	}
	return t
}

// isBefore tells whether a comes before b in reading order.
func isBefore(a, b api.Cell) bool {
	return a.Y < b.Y || a.Y == b.Y && a.X < b.X
}

// show returns the heights as others see them, in new memory.
func (f floor) show() api.Heights {
	known := make([]bool, f.size())
	for p := range f.corners() {
		known[f.place(p)] = true
	}
	return api.Heights{W: f.width, H: f.height, Values: slices.Clone(f.heights), Known: known}
}

func areSame(a, b api.Heights) bool {
	return a.W == b.W && a.H == b.H && slices.Equal(a.Values, b.Values) && slices.Equal(a.Known, b.Known)
}

// combined returns the floor whose heights are chosen from those of f and g. It is a floor again if choose takes the
// lesser or the greater one: at each point both heights leave the same rest modulo 4, so that along an edge the chosen
// ones still differ by the rise of the edge, crossed or not.
func (f floor) combined(g floor, choose func(a, b int) int) floor {
	heights := make([]int, f.size())
	for i := range heights {
		heights[i] = choose(f.heights[i], g.heights[i])
	}
	return floor{f.region, heights}
}

func (f floor) isBelow(g floor) bool {
	for i := range f.heights {
		if f.heights[i] > g.heights[i] {
			return false
		}
	}
	return true
}
