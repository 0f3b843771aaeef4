package lozenge

import (
	"iter"
	"slices"

	"encaustic/api"
)

// order is what ranks are counted with: the rows of a box in lexicographic order, and ways[n][r], in how many ways n
// rows can follow rows[r], each of them fitting under the one before.
type order struct {
	rows []row
	ways [][]int
}

func orderOf(b api.Box) order {
	rows := rowsOf(b)
	ways := [][]int{slices.Repeat([]int{1}, len(rows))}
	for n := 1; n < b.A; n++ {
		next := make([]int, len(rows))
		for r, upper := range rows {
			// A row that fits under another one does not come after it.
			for s, lower := range rows[:r+1] {
				if lower.fitsUnder(upper) {
					next[r] += ways[n-1][s]
				}
			}
		}
		ways = append(ways, next)
	}
	return order{rows, ways}
}

// highest returns the row that all others fit under.
func (o order) highest() row {
	return o.rows[len(o.rows)-1]
}

// under returns the rows that fit under a row, in order, each with the number of ways in which n rows can follow it.
func (o order) under(above row, n int) iter.Seq2[row, int] {
	return func(yield func(row, int) bool) {
		for r, next := range o.rows {
			if next.fitsUnder(above) && !yield(next, o.ways[n][r]) {
				return
			}
		}
	}
}

// rank counts, row by row, the heaps that have the same rows before and a lesser one there.
func (p pile) rank() int {
	o := orderOf(p.box)
	rank, above := 0, o.highest()
	for i, own := range p.rows[:p.box.A] {
		for other, ways := range o.under(above, p.box.A-1-i) {
			if other == own {
				break
			}
			rank += ways
		}
		above = own
	}
	return rank
}

// ranked returns the pile that has a rank, which must be below the number of all.
func ranked(b api.Box, rank int) pile {
	o := orderOf(b)
	p, above := pile{box: b}, o.highest()
	for i := range b.A {
		for next, ways := range o.under(above, b.A-1-i) {
			if rank < ways {
				p.rows[i] = next
				break
			}
			rank -= ways
		}
		above = p.rows[i]
	}
	return p
}
