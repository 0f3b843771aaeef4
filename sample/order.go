package sample

import (
	"slices"
	"strings"

	"encaustic/api"
	"encaustic/domino"
)

// indexOf counts, wherever t has a domino that is Down, the tilings that have one that is not there, and the same ones
// before: just these come before t, and after all that differ from t later.
func indexOf(r []string, t []api.Domino) int {
	index := 0
	for _, d := range t {
		if d.Down {
			index += countWith(r, api.Domino{X: d.X, Y: d.Y})
		}
		r = without(r, d)
	}
	return index
}

// tilingAt needs an index below the number of tilings of r, and keeps it so for what is left of r.
func tilingAt(r []string, index int) []api.Domino {
	var t []api.Domino
	for {
		d, ok := first(r)
		if !ok {
			return t
		}
		if n := countWith(r, d); index >= n {
			index -= n
			d.Down = true
		}
		t = append(t, d)
		r = without(r, d)
	}
}

// first returns the domino that is not Down at the first cell, whether it fits or not; false if there is no cell.
func first(r []string) (api.Domino, bool) {
	for y, row := range r {
		if x := strings.IndexByte(row, '#'); x >= 0 {
			return api.Domino{X: x, Y: y}, true
		}
	}
	return api.Domino{}, false
}

// countWith returns the number of tilings with the domino d, which is not Down.
func countWith(r []string, d api.Domino) int {
	if !strings.HasPrefix(r[d.Y][d.X:], "##") {
		return 0
	}
	n, _ := domino.Count(without(r, d))
	return n
}

// without returns the region without the cells of d.
func without(r []string, d api.Domino) []string {
	rest := slices.Clone(r)
	if d.Down {
		rest[d.Y] = cut(rest[d.Y], d.X, 1)
		rest[d.Y+1] = cut(rest[d.Y+1], d.X, 1)
	} else {
		rest[d.Y] = cut(rest[d.Y], d.X, 2)
	}
	return rest
}

// cut returns a row without n cells from x on.
func cut(row string, x, n int) string {
	return row[:x] + strings.Repeat(".", n) + row[x+n:]
}
