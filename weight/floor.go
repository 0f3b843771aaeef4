package weight

import (
	"cmp"
	"slices"

	"encaustic/api"
)

// floor is a floor with all puts of some tiles. Its task is to fill it with them: the places are its cells, numbered
// in reading order, and the pieces are its puts.
type floor struct {
	task
	cells []api.Cell
	puts  []api.Put
}

// read returns false if r is not a floor or the tiles are not valid.
func read(r []string, tiles []api.Tile) (floor, bool) {
	cells, ok := readCells(r)
	if !ok || !areTiles(tiles) {
		return floor{}, false
	}
	f := floor{cells: cells}
	f.size = len(cells)
	for i, c := range cells {
		f.goal = append(f.goal, i)
		for k, tile := range tiles {
			if places := f.under(tile, c); places != nil {
				f.puts = append(f.puts, api.Put{Tile: k, X: c.X, Y: c.Y})
				f.pieces = append(f.pieces, places)
			}
		}
	}
	return f, true
}

// readCells returns the cells of a floor in reading order.
func readCells(r []string) ([]api.Cell, bool) {
	if !isMeasure(len(r)) || !isMeasure(len(r[0])) {
		return nil, false
	}
	var cells []api.Cell
	for y, row := range r {
		if len(row) != len(r[0]) {
			return nil, false
		}
		for x := range len(row) {
			if row[x] != '#' && row[x] != '.' {
				return nil, false
			}
			if row[x] == '#' {
				cells = append(cells, api.Cell{X: x, Y: y})
			}
		}
	}
	return cells, len(cells) > 0
}

func isMeasure(n int) bool {
	return 1 <= n && n <= api.MaxWide
}

func areTiles(tiles []api.Tile) bool {
	if len(tiles) < 1 || len(tiles) > api.MaxTiles {
		return false
	}
	for i, tile := range tiles {
		same := func(other api.Tile) bool { return slices.Equal(other, tile) }
		if !isTile(tile) || slices.ContainsFunc(tiles[:i], same) {
			return false
		}
	}
	return true
}

// reach is how far from its first cell a cell of a tile may be.
const reach = 4

func isTile(t api.Tile) bool {
	if len(t) < 1 || len(t) > api.MaxCells || t[0] != (api.Cell{}) {
		return false
	}
	for i, c := range t {
		if c.X < -reach || c.X > reach || c.Y < 0 || c.Y > reach {
			return false
		}
		if i > 0 && compareCells(t[i-1], c) >= 0 {
			return false
		}
	}
	return true
}

// compareCells compares cells by reading order.
func compareCells(a, b api.Cell) int {
	return cmp.Or(cmp.Compare(a.Y, b.Y), cmp.Compare(a.X, b.X))
}

// under returns the places of the cells of a tile whose cell 0 0 comes to c, or nil if not all of them are of the floor.
func (f floor) under(t api.Tile, c api.Cell) []int {
	var places []int
	for _, d := range t {
		place := slices.Index(f.cells, moved(d, c.X, c.Y))
		if place < 0 {
			return nil
		}
		places = append(places, place)
	}
	return places
}

func moved(c api.Cell, x, y int) api.Cell {
	return api.Cell{X: c.X + x, Y: c.Y + y}
}

// colours returns the colours of the cells.
func (f floor) colours(a, b, n int) []int {
	list := make([]int, len(f.cells))
	for i, c := range f.cells {
		list[i] = (a*c.X + b*c.Y) % n
	}
	return list
}
