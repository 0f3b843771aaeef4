package lozenge

import (
	"slices"

	"encaustic/api"
)

// row is a row of a heap, and 0 behind its end.
type row [api.MaxBox]int

// pile is a heap in a box. Rows that the box does not have are 0, so that piles can be compared by ==.
type pile struct {
	box  api.Box
	rows [api.MaxBox]row
}

// read returns the pile of a list, or false if it is no heap in the box.
func read(b api.Box, heap [][]int) (pile, bool) {
	if len(heap) != b.A {
		return pile{}, false
	}
	p := pile{box: b}
	for i, numbers := range heap {
		if len(numbers) != b.B {
			return pile{}, false
		}
		for j, n := range numbers {
			if n < 0 || n > p.most(i, j) {
				return pile{}, false
			}
			p.rows[i][j] = n
		}
	}
	return p, true
}

// show returns the heap as others see it, in new memory.
func (p pile) show() [][]int {
	heap := make([][]int, p.box.A)
	for i := range heap {
		heap[i] = slices.Clone(p.rows[i][:p.box.B])
	}
	return heap
}

// at returns the number at i, j. Before the first row and column, where the walls are, it is as high as the box, and
// behind the last ones it is 0, so that places at the rim are like all others.
func (p pile) at(i, j int) int {
	switch {
	case i < 0 || j < 0:
		return p.box.C
	case i >= p.box.A || j >= p.box.B:
		return 0
	default:
		return p.rows[i][j]
	}
}

// most returns what the number at i, j can be at most, by the numbers before and above it.
func (p pile) most(i, j int) int {
	return min(p.at(i-1, j), p.at(i, j-1))
}

// least returns what the number at i, j must be at least, by the numbers behind and below it.
func (p pile) least(i, j int) int {
	return max(p.at(i+1, j), p.at(i, j+1))
}

// corners returns the places where a cube can be added, and those where one can be taken, in reading order.
func (p pile) corners() ([]api.Cell, []api.Cell) {
	var add, take []api.Cell
	for i := range p.box.A {
		for j := range p.box.B {
			place := api.Cell{X: j, Y: i}
			if p.rows[i][j] < p.most(i, j) {
				add = append(add, place)
			}
			if p.rows[i][j] > p.least(i, j) {
				take = append(take, place)
			}
		}
	}
	return add, take
}

// volume returns the number of cubes.
func (p pile) volume() int {
	sum := 0
	for _, r := range p.rows {
		for _, n := range r {
			sum += n
		}
	}
	return sum
}

// above returns how many numbers of a row are above k. What is behind its end is not, since k is never below 0.
func (r row) above(k int) int {
	count := 0
	for _, n := range r {
		if n > k {
			count++
		}
	}
	return count
}

// fitsUnder tells whether r can come below s in a heap.
func (r row) fitsUnder(s row) bool {
	for j, n := range r {
		if n > s[j] {
			return false
		}
	}
	return true
}
