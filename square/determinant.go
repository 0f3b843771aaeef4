package square

import (
	"slices"
)

// arithmetic is how a determinant's numbers are computed with.
type arithmetic struct {
	times, minus, over func(a, b int) int
}

// wholes computes with whole numbers; it is asked only for quotients that are whole.
func wholes() arithmetic {
	return arithmetic{
		times: func(a, b int) int { return a * b },
		minus: func(a, b int) int { return a - b },
		over:  func(a, b int) int { return a / b },
	}
}

// without returns a copy of a square matrix without some of its rows and the columns of the same numbers.
func without(m [][]int, out ...int) [][]int {
	var rest [][]int
	for i, row := range m {
		if slices.Contains(out, i) {
			continue
		}
		var kept []int
		for j, number := range row {
			if !slices.Contains(out, j) {
				kept = append(kept, number)
			}
		}
		rest = append(rest, kept)
	}
	return rest
}

// determinant uses m up. It eliminates as Bareiss does: all numbers on the way are determinants of parts of m,
// so no division leaves a rest, and with the few wires of a network none of them comes near an overflow.
func determinant(m [][]int, with arithmetic) int {
	last, exchanged := 1, false
	for k := range m {
		row := pivotRow(m, k)
		if row < 0 {
			return 0
		}
		if row != k {
			m[k], m[row] = m[row], m[k]
			exchanged = !exchanged
		}
		eliminate(m, k, last, with)
		last = m[k][k]
	}
	if exchanged {
		return with.minus(0, last)
	}
	return last
}

// pivotRow returns the first row from k on whose number in the column k is not 0, or -1.
func pivotRow(m [][]int, k int) int {
	for i := k; i < len(m); i++ {
		if m[i][k] != 0 {
			return i
		}
	}
	return -1
}

// eliminate leaves the column k as it is, since nothing reads it again below the row k.
func eliminate(m [][]int, k, last int, with arithmetic) {
	for i := k + 1; i < len(m); i++ {
		for j := k + 1; j < len(m); j++ {
			crossed := with.minus(with.times(m[k][k], m[i][j]), with.times(m[i][k], m[k][j]))
			m[i][j] = with.over(crossed, last)
		}
	}
}
