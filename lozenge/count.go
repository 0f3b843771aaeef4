package lozenge

import (
	"iter"

	"encaustic/api"
	"encaustic/matrix"
)

// macMahon computes MacMahon's product. For each i and j, the factors of all k cancel to (i + j + C - 1) / (i + j - 1);
// of those there are so few that neither product overflows, and they are divided only when both are complete.
func macMahon(b api.Box) int {
	upper, lower := 1, 1
	for i := 1; i <= b.A; i++ {
		for j := 1; j <= b.B; j++ {
			upper *= i + j + b.C - 1
			lower *= i + j - 1
		}
	}
	return upper / lower
}

// paths has a matrix that is fit for matrix.Determinant: it has at most four rows of numbers up to 70.
func paths(b api.Box) int {
	m := make([][]int, b.A)
	for i := range m {
		m[i] = make([]int, b.A)
		for j := range m[i] {
			m[i][j] = choices(b.B+b.C, b.B-i+j)
		}
	}
	return matrix.Determinant(m)
}

// choices returns the number of ways to choose k of n things.
func choices(n, k int) int {
	if k < 0 || k > n {
		return 0
	}
	ways := 1
	for i := range k {
		ways = ways * (n - i) / (i + 1)
	}
	return ways
}

// volumes goes through all heaps.
func volumes(b api.Box) []int {
	counts := make([]int, b.A*b.B*b.C+1)
	for p := range piles(b) {
		counts[p.volume()]++
	}
	return counts
}

// piles returns all heaps in a box in lexicographic order.
func piles(b api.Box) iter.Seq[pile] {
	return func(yield func(pile) bool) {
		rows := rowsOf(b)
		var extend func(p pile, i int, above row) bool
		extend = func(p pile, i int, above row) bool {
			if i == b.A {
				return yield(p)
			}
			for _, r := range rows {
				if !r.fitsUnder(above) {
					continue
				}
				p.rows[i] = r
				if !extend(p, i+1, r) {
					return false
				}
			}
			return true
		}
		extend(pile{box: b}, 0, rows[len(rows)-1])
	}
}

// rowsOf returns all rows that a heap in a box can have, in lexicographic order. All of them fit under the last one.
func rowsOf(b api.Box) []row {
	var rows []row
	var fill func(r row, j, most int)
	fill = func(r row, j, most int) {
		if j == b.B {
			rows = append(rows, r)
			return
		}
		for n := range most + 1 {
			r[j] = n
			fill(r, j+1, n)
		}
	}
	fill(row{}, 0, b.C)
	return rows
}
