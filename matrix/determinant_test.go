package matrix_test

import (
	"math/rand"
	"testing"

	"encaustic/matrix"
)

// expanded is the determinant by the definition: the sum over all ways to take a number from each row and column.
func expanded(m [][]int, row int, taken map[int]bool) int {
	if row == len(m) {
		return 1
	}
	sum, sign := 0, 1
	for column, number := range m[row] {
		if taken[column] {
			continue
		}
		taken[column] = true
		sum += sign * number * expanded(m, row+1, taken)
		delete(taken, column)
		sign = -sign
	}
	return sum
}

func TestDeterminantExamples(t *testing.T) {
	for _, c := range []struct {
		m    [][]int
		want int
	}{
		{nil, 1},
		{[][]int{}, 1},
		{[][]int{{-7}}, -7},
		{[][]int{{0}}, 0},
		{[][]int{{1, 1}, {-1, 1}}, 2},
		{[][]int{{0, 1}, {1, 0}}, -1},
		{[][]int{{0, 1, 0}, {0, 0, 1}, {1, 0, 0}}, 1},
		{[][]int{{1, 2}, {2, 4}}, 0},
		{[][]int{{0, 2}, {0, 4}}, 0},
	} {
		if got := matrix.Determinant(c.m); got != c.want {
			t.Errorf("%v: %d, want %d", c.m, got, c.want)
		}
	}
}

func TestDeterminantIsTheSumOfProducts(t *testing.T) {
	r := rand.New(rand.NewSource(1))
	for range 2000 {
		m := make([][]int, r.Intn(6))
		most := 1 + r.Intn(4)
		for i := range m {
			m[i] = make([]int, len(m))
			for j := range m[i] {
				m[i][j] = r.Intn(2*most+1) - most
			}
		}
		want := expanded(m, 0, map[int]bool{})
		if got := matrix.Determinant(m); got != want {
			t.Fatalf("%d rows: %d, want %d", len(m), got, want)
		}
	}
}
