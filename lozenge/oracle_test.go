package lozenge_test

// What the other tests share: boxes and heaps to test with, and slow ways to find the same results.

import (
	"math/rand"
	"slices"
	"testing"

	"encaustic/api"
	"encaustic/lozenge"
)

func box(a, b, c int) api.Box { return api.Box{A: a, B: b, C: c} }

// allBoxes are all boxes there are.
func allBoxes() []api.Box {
	var boxes []api.Box
	for a := 1; a <= 4; a++ {
		for b := 1; b <= 4; b++ {
			for c := 1; c <= 4; c++ {
				boxes = append(boxes, box(a, b, c))
			}
		}
	}
	return boxes
}

// smallBoxes are those with at most that many heaps; there are long ones among them.
func smallBoxes(most int) []api.Box {
	return slices.DeleteFunc(allBoxes(), func(b api.Box) bool { return product(b) > most })
}

// notBoxes have one side, or more, out of the limits.
func notBoxes() []api.Box {
	all := []api.Box{{}, box(5, 5, 5), box(-1, -1, -1), box(least, greatest, least)}
	for _, n := range []int{least, least + 1, -1 << 32, -4, -1, 0, 5, 6, 8, 1<<32 + 1, 1 << 62, greatest - 1, greatest} {
		all = append(all, box(n, 2, 2), box(2, n, 2), box(2, 2, n))
	}
	return all
}

const (
	greatest = int(^uint(0) >> 1)
	least    = -greatest - 1
)

// product is MacMahon's product, divided wherever that leaves no rest.
func product(b api.Box) int {
	upper, lower := 1, 1
	for i := 1; i <= b.A; i++ {
		for j := 1; j <= b.B; j++ {
			for k := 1; k <= b.C; k++ {
				upper, lower = upper*(i+j+k-1), lower*(i+j+k-2)
				d := divisor(upper, lower)
				upper, lower = upper/d, lower/d
			}
		}
	}
	return upper / lower
}

func divisor(a, b int) int {
	if b == 0 {
		return a
	}
	return divisor(b, a%b)
}

// isHeap is the definition.
func isHeap(b api.Box, heap [][]int) bool {
	if len(heap) != b.A {
		return false
	}
	for i, row := range heap {
		if len(row) != b.B {
			return false
		}
		for j, n := range row {
			if n < 0 || n > b.C || j > 0 && n > row[j-1] || i > 0 && n > heap[i-1][j] {
				return false
			}
		}
	}
	return true
}

// blank is the empty heap.
func blank(b api.Box) [][]int { return filled(b, 0) }

// filled has the same number everywhere.
func filled(b api.Box, n int) [][]int {
	heap := make([][]int, b.A)
	for i := range heap {
		heap[i] = slices.Repeat([]int{n}, b.B)
	}
	return heap
}

func clone(heap [][]int) [][]int {
	var other [][]int
	for _, row := range heap {
		other = append(other, slices.Clone(row))
	}
	return other
}

func areSame(g, h [][]int) bool {
	return slices.EqualFunc(g, h, func(r, s []int) bool { return slices.Equal(r, s) })
}

// eachHeap goes through all heaps in lexicographic order, number by number. The heap that it gives is used again.
func eachHeap(b api.Box, visit func(heap [][]int)) {
	heap := blank(b)
	var fill func(place int)
	fill = func(place int) {
		if place == b.A*b.B {
			visit(heap)
			return
		}
		i, j := place/b.B, place%b.B
		most := b.C
		if i > 0 {
			most = min(most, heap[i-1][j])
		}
		if j > 0 {
			most = min(most, heap[i][j-1])
		}
		for n := 0; n <= most; n++ {
			heap[i][j] = n
			fill(place + 1)
		}
	}
	fill(0)
}

// heapsOf lists all heaps in lexicographic order.
func heapsOf(b api.Box) [][][]int {
	var all [][][]int
	eachHeap(b, func(heap [][]int) { all = append(all, clone(heap)) })
	return all
}

// someHeaps are an empty heap, a full one, and others by chance.
func someHeaps(b api.Box, n int) [][][]int {
	random := rand.New(rand.NewSource(int64(b.A*100 + b.B*10 + b.C)))
	all := [][][]int{blank(b), filled(b, b.C)}
	for len(all) < n {
		heap := filled(b, b.C)
		for range random.Intn(b.A*b.B*b.C + 1) {
			if _, take := slowCorners(b, heap); len(take) > 0 {
				c := take[random.Intn(len(take))]
				heap[c.Y][c.X]--
			}
		}
		all = append(all, heap)
	}
	return all
}

// testHeaps are all heaps of a box, or some if there are too many.
func testHeaps(b api.Box) [][][]int {
	if product(b) <= 1000 {
		return heapsOf(b)
	}
	return someHeaps(b, 200)
}

// slowCorners tries each place.
func slowCorners(b api.Box, heap [][]int) ([]api.Cell, []api.Cell) {
	var add, take []api.Cell
	for i := range heap {
		for j := range heap[i] {
			heap[i][j]++
			if isHeap(b, heap) {
				add = append(add, api.Cell{X: j, Y: i})
			}
			heap[i][j] -= 2
			if isHeap(b, heap) {
				take = append(take, api.Cell{X: j, Y: i})
			}
			heap[i][j]++
		}
	}
	return add, take
}

func volume(heap [][]int) int {
	sum := 0
	for _, row := range heap {
		for _, n := range row {
			sum += n
		}
	}
	return sum
}

// cube is where a cube is: its row, its place in the row, and how many are below it.
type cube struct{ i, j, k int }

func cubesOf(heap [][]int) map[cube]bool {
	cubes := map[cube]bool{}
	for i, row := range heap {
		for j, n := range row {
			for k := range n {
				cubes[cube{i, j, k}] = true
			}
		}
	}
	return cubes
}

// heapOf counts the cubes at each place; they are there whether they lie on one another or not.
func heapOf(b api.Box, cubes map[cube]bool) [][]int {
	heap := blank(b)
	for c := range cubes {
		heap[c.i][c.j]++
	}
	return heap
}

// slowChange takes each place of a box to another place, and keeps the cubes that were there, or those that were not.
func slowChange(b, to api.Box, heap [][]int, there bool, move func(cube) cube) [][]int {
	cubes, moved := cubesOf(heap), map[cube]bool{}
	for i := range b.A {
		for j := range b.B {
			for k := range b.C {
				if c := (cube{i, j, k}); cubes[c] == there {
					moved[move(c)] = true
				}
			}
		}
	}
	return heapOf(to, moved)
}

func slowComplement(b api.Box, heap [][]int) [][]int {
	return slowChange(b, b, heap, false, func(c cube) cube { return cube{b.A - 1 - c.i, b.B - 1 - c.j, b.C - 1 - c.k} })
}

func transposed(b api.Box) api.Box { return box(b.B, b.A, b.C) }

func slowTranspose(b api.Box, heap [][]int) [][]int {
	return slowChange(b, transposed(b), heap, true, func(c cube) cube { return cube{c.j, c.i, c.k} })
}

func turned(b api.Box) api.Box { return box(b.C, b.A, b.B) }

func slowTurn(b api.Box, heap [][]int) [][]int {
	return slowChange(b, turned(b), heap, true, func(c cube) cube { return cube{c.k, c.i, c.j} })
}

// TestTheSlowWays compares eachHeap with all lists of numbers there are, and the others with what can be seen.
func TestTheSlowWays(t *testing.T) {
	for _, b := range []api.Box{box(1, 1, 4), box(2, 2, 2), box(3, 2, 1), box(1, 4, 3), box(2, 3, 2)} {
		var want [][][]int
		eachList(b, 0, b.C, func(heap [][]int) {
			if isHeap(b, heap) {
				want = append(want, clone(heap))
			}
		})
		if got := heapsOf(b); !slices.EqualFunc(got, want, areSame) || len(got) != product(b) {
			t.Errorf("%v: %v, want %v", b, got, want)
		}
	}
	if got := slowTurn(box(1, 2, 3), [][]int{{3, 1}}); !areSame(got, [][]int{{2}, {1}, {1}}) {
		t.Error(got)
	}
	if got := slowComplement(box(1, 2, 3), [][]int{{3, 1}}); !areSame(got, [][]int{{2, 0}}) {
		t.Error(got)
	}
}

// eachList goes through all lists of the measures of a box with numbers between two.
func eachList(b api.Box, from, to int, visit func(heap [][]int)) {
	heap := filled(b, from)
	for {
		visit(heap)
		place := b.A*b.B - 1
		for place >= 0 && heap[place/b.B][place%b.B] == to {
			heap[place/b.B][place%b.B] = from
			place--
		}
		if place < 0 {
			return
		}
		heap[place/b.B][place%b.B]++
	}
}

// must fails the test if there was an error.
func must(t *testing.T, e api.Errno) {
	t.Helper()
	if e != api.OK {
		t.Fatalf("error %d", e)
	}
}

// rankOf returns the result of Rank.
func rankOf(t *testing.T, b api.Box, heap [][]int) int {
	t.Helper()
	n, e := lozenge.Rank(b, heap)
	must(t, e)
	return n
}
