package domino

import (
	"encaustic/api"
)

// firstTiling needs a set that can be tiled. Its first cell that is not covered yet can only be the first cell of a
// domino, since all cells before it are covered.
func firstTiling(rest set) []api.Domino {
	var tiling []api.Domino
	for rest != 0 {
		c := rest.first()
		second, down := right(c), false
		if rest&second == 0 || !canBeTiled(rest&^(c|second)) {
			second, down = below(c), true
		}
		tiling = append(tiling, api.Domino{X: c.at().X, Y: c.at().Y, Down: down})
		rest &^= c | second
	}
	return tiling
}

// isTiling goes through the list as firstTiling makes one: in reading order, each domino of a tiling begins at the
// first cell that is not covered yet.
func isTiling(rest set, t []api.Domino) bool {
	for _, d := range t {
		c := rest.first()
		if c != cell(d.X, d.Y) {
			return false
		}
		second := right(c)
		if d.Down {
			second = below(c)
		}
		if rest&second == 0 {
			return false
		}
		rest &^= c | second
	}
	return rest == 0
}

// used returns the first cells of the dominoes of one direction that are in some tiling of s; second gives the other
// cell of such a domino.
func used(s set, second func(set) set) set {
	var found set
	for _, c := range s.singles() {
		if s&second(c) != 0 && canBeTiled(s&^(c|second(c))) {
			found |= c
		}
	}
	return found
}
