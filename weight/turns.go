package weight

import (
	"slices"

	"encaustic/api"
)

// turns returns a tile turned and mirrored in all ways, each but once, in ascending order. The fourth turn leads back to
// where the first one began.
func turns(t api.Tile) []api.Tile {
	var list []api.Tile
	for _, next := range [2]api.Tile{t, changed(t, mirrored)} {
		for range 4 {
			next = changed(next, turned)
			list = append(list, next)
		}
	}
	slices.SortFunc(list, compareTiles)
	return slices.CompactFunc(list, func(a, b api.Tile) bool { return compareTiles(a, b) == 0 })
}

func turned(c api.Cell) api.Cell {
	return api.Cell{X: -c.Y, Y: c.X}
}

func mirrored(c api.Cell) api.Cell {
	return api.Cell{X: -c.X, Y: c.Y}
}

// changed changes each cell of a tile, and then moves the tile so that its first cell is 0 0 again.
func changed(t api.Tile, change func(api.Cell) api.Cell) api.Tile {
	next := make(api.Tile, len(t))
	for i, c := range t {
		next[i] = change(c)
	}
	slices.SortFunc(next, compareCells)
	first := next[0]
	for i, c := range next {
		next[i] = moved(c, -first.X, -first.Y)
	}
	return next
}

func compareTiles(a, b api.Tile) int {
	return slices.CompareFunc(a, b, compareCells)
}
