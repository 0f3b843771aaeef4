package lozenge

import (
	"cmp"
	"slices"

	"encaustic/api"
)

// The kinds of lozenges: the top of a place, the side of a row, and the side of a column.
const (
	topKind = iota
	rowKind
	columnKind
)

// floor returns the lozenges in ascending order. A point that is i, j and k away from the corner of the box is seen at
// j - i, k - i.
func (p pile) floor() []api.Lozenge {
	b := p.box
	var tiles []api.Lozenge
	for i := range b.A {
		for j := range b.B {
			tiles = append(tiles, seen(topKind, i, j, p.rows[i][j]))
		}
	}
	for i := range b.A {
		for k := range b.C {
			tiles = append(tiles, seen(rowKind, i, p.rows[i].above(k), k))
		}
	}
	columns := p.transpose().rows
	for j := range b.B {
		for k := range b.C {
			tiles = append(tiles, seen(columnKind, columns[j].above(k), j, k))
		}
	}
	slices.SortFunc(tiles, compare)
	return tiles
}

func seen(kind, i, j, k int) api.Lozenge {
	return api.Lozenge{Kind: kind, X: j - i, Y: k - i}
}

func compare(a, b api.Lozenge) int {
	return cmp.Or(cmp.Compare(a.Kind, b.Kind), cmp.Compare(a.X, b.X), cmp.Compare(a.Y, b.Y))
}
