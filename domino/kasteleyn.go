package domino

import (
	"encaustic/matrix"
)

// kasteleyn's matrix is fit for matrix.Determinant: a row has at most four numbers 1 or -1, so a determinant of k rows
// is at most 2^k (Hadamard), and those that are multiplied have at most 31 rows.
func kasteleyn(s set) int {
	blacks, whites := (s & black).singles(), (s &^ black).singles()
	if len(blacks) != len(whites) {
		return 0
	}
	m := make([][]int, len(blacks))
	for i, b := range blacks {
		m[i] = make([]int, len(whites))
		for j, w := range whites {
			m[i][j] = sign(b, w)
		}
	}
	return matrix.Determinant(m)
}

// sign returns the entry of a black and a white cell.
func sign(b, w set) int {
	switch {
	case (left(b)|right(b))&w != 0:
		return 1
	case (above(b)|below(b))&w == 0:
		return 0
	case b.at().X%2 == 0:
		return 1
	default:
		return -1
	}
}
