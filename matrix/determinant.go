// Package matrix computes with matrices of whole numbers, for the layers that count by determinants.
package matrix

// arithmetic is how a determinant's numbers are computed with.
type arithmetic struct {
	times, minus, over func(a, b int) int
}

// wholes computes with whole numbers; it is asked only for quotients that are whole.
func wholes() arithmetic {
	return arithmetic{
		times: func(a, b int) int { return a * b },
		minus: func(a, b int) int { return a - b },
		over:  func(a, b int) int { return a / b },
	}
}

// Determinant returns the determinant of a square matrix, 1 if it is empty, and uses m up. It eliminates as Bareiss
// does: all numbers on the way are determinants of parts of m, so no division leaves a rest. The caller sees to it that
// no product of two of them, of parts that are smaller than m, overflows.
func Determinant(m [][]int) int {
	with := wholes()
	last, exchanged := 1, false
	for k := range m {
		row := pivotRow(m, k)
		if row < 0 {
			return 0
		}
		if row != k {
			m[k], m[row] = m[row], m[k]
			exchanged = !exchanged
		}
		eliminate(m, k, last, with)
		last = m[k][k]
	}
	if exchanged {
		return with.minus(0, last)
	}
	return last
}

// pivotRow returns the first row from k on whose number in the column k is not 0, or -1.
func pivotRow(m [][]int, k int) int {
	for i := k; i < len(m); i++ {
		if m[i][k] != 0 {
			return i
		}
	}
	return -1
}

// eliminate leaves the column k as it is, since nothing reads it again below the row k.
func eliminate(m [][]int, k, last int, with arithmetic) {
	for i := k + 1; i < len(m); i++ {
		for j := k + 1; j < len(m); j++ {
			crossed := with.minus(with.times(m[k][k], m[i][j]), with.times(m[i][k], m[k][j]))
			m[i][j] = with.over(crossed, last)
		}
	}
}
