package pattern

import (
	"encaustic/api"
)

// none marks a cell whose orbit has no number yet.
const none = -1

// index is the place of a cell's home in a list of the cells of the period.
func (s group) index(c api.Cell) int {
	c = s.home(c)
	return c.Y*s.grid.A + c.X
}

// cell is the cell of the period that has an index.
func (s group) cell(index int) api.Cell {
	return api.Cell{X: index % s.grid.A, Y: index / s.grid.A}
}

// orbits numbers the orbits of the cells of w columns and h rows.
func (s group) orbits(w, h int) [][]int {
	numbers := make([]int, s.cells())
	for i := range numbers {
		numbers[i] = none
	}
	next := 0
	rows := make([][]int, h)
	for y := range rows {
		rows[y] = make([]int, w)
		for x := range rows[y] {
			c := api.Cell{X: x, Y: y}
			if numbers[s.index(c)] == none {
				s.number(numbers, c, next)
				next++
			}
			rows[y][x] = numbers[s.index(c)]
		}
	}
	return rows
}

// number gives the cells of an orbit their number. Each is where a move of the group takes c, up to translations: a
// group needs no second step.
func (s group) number(numbers []int, c api.Cell, number int) {
	for _, m := range s.moves {
		numbers[s.index(take(m, c))] = number
	}
}

// cycles is the number of cycles in which a symmetry moves the cells of the period.
func (s group) cycles(m api.Move) int {
	seen := make([]bool, s.cells())
	count := 0
	for first := range seen {
		if seen[first] {
			continue
		}
		count++
		for i := first; !seen[i]; i = s.index(take(m, s.cell(i))) {
			seen[i] = true
		}
	}
	return count
}

// burnside is the mean number of colourings that a move leaves as they are: those that are of one colour on each cycle.
func burnside(moves []api.Move, n int, cycles func(api.Move) int) int {
	sum := 0
	for _, m := range moves {
		sum += power(n, cycles(m))
	}
	return sum / len(moves)
}

func power(n, k int) int {
	product := 1
	for range k {
		product *= n
	}
	return product
}
