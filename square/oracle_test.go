package square_test

// What the other tests share: networks and dissections to test with, and slow ways to find the same results.

import (
	"math/rand"
	"slices"
	"testing"

	"encaustic/api"
)

const (
	least    = -1 << 63
	greatest = 1<<63 - 1
)

// network is a network to test with.
type network struct {
	n     int
	wires []api.Wire
}

// wiresOf makes wires of pairs of vertices.
func wiresOf(ends ...int) []api.Wire {
	var wires []api.Wire
	for i := 0; i < len(ends); i += 2 {
		wires = append(wires, api.Wire{A: ends[i], B: ends[i+1]})
	}
	return wires
}

// squaresOf makes squares of triples X, Y, Side.
func squaresOf(numbers ...int) []api.Square {
	var squares []api.Square
	for i := 0; i < len(numbers); i += 3 {
		squares = append(squares, api.Square{X: numbers[i], Y: numbers[i+1], Side: numbers[i+2]})
	}
	return squares
}

// manyWires makes count wires between 0 and 1.
func manyWires(count int) []api.Wire {
	return slices.Repeat(wiresOf(0, 1), count)
}

// someNetworks are small ones of every kind and random ones of every size; some of them are not connected.
func someNetworks() []network {
	list := []network{
		{2, nil},
		{2, wiresOf(0, 1)},
		{2, wiresOf(1, 0)},
		{2, wiresOf(0, 1, 1, 0, 0, 1)},
		{2, manyWires(api.MaxWires)},
		{3, wiresOf(0, 1)},
		{3, wiresOf(1, 2)},
		{3, wiresOf(0, 2, 0, 2)},
		{3, wiresOf(0, 1, 1, 2)},
		{3, wiresOf(0, 1, 1, 2, 2, 0)},
		{4, wiresOf(0, 1, 2, 3)},
		{4, wiresOf(0, 1, 1, 2, 2, 0)},
		{4, wiresOf(3, 1, 1, 2, 2, 3)},
		{4, wiresOf(0, 1, 0, 2, 0, 3, 1, 2, 1, 3, 2, 3)},
		{5, wiresOf(0, 1, 1, 2, 3, 4, 4, 3)},
		{8, nil},
		{8, wiresOf(0, 1, 1, 2, 2, 3, 3, 4, 4, 5, 5, 6, 6, 7)},
		{8, wiresOf(0, 4, 0, 5, 0, 6, 0, 7, 1, 4, 1, 5, 1, 6, 1, 7, 2, 4, 2, 5, 2, 6, 2, 7, 3, 4, 3, 5, 3, 6, 3, 7)},
	}
	r := rand.New(rand.NewSource(1))
	for n := 2; n <= api.MaxVertices; n++ {
		for range 8 {
			list = append(list, randomNetwork(r, n, r.Intn(api.MaxWires+1)))
		}
		list = append(list, randomNetwork(r, n, api.MaxWires))
	}
	return list
}

func randomNetwork(r *rand.Rand, n, count int) network {
	var wires []api.Wire
	for range count {
		a := r.Intn(n)
		b := (a + 1 + r.Intn(n-1)) % n
		wires = append(wires, api.Wire{A: a, B: b})
	}
	return network{n, wires}
}

// connectedNetworks are those of someNetworks that are connected.
func connectedNetworks() []network {
	var list []network
	for _, g := range someNetworks() {
		if len(spanning(g.n, g.wires)) > 0 {
			list = append(list, g)
		}
	}
	return list
}

// eachPair calls f for all ordered pairs of different vertices.
func eachPair(n int, f func(s, t int)) {
	for s := range n {
		for t := range n {
			if s != t {
				f(s, t)
			}
		}
	}
}

// spanning lists all spanning trees, as lists of indices of wires: it tries all sets of n - 1 wires.
func spanning(n int, wires []api.Wire) [][]int {
	var found [][]int
	var chosen []int
	var choose func(next int, group []int)
	choose = func(next int, group []int) {
		if len(chosen) == n-1 {
			found = append(found, slices.Clone(chosen))
			return
		}
		for i := next; i < len(wires); i++ {
			a, b := group[wires[i].A], group[wires[i].B]
			if a == b {
				continue
			}
			joined := slices.Clone(group)
			for v := range joined {
				if joined[v] == b {
					joined[v] = a
				}
			}
			chosen = append(chosen, i)
			choose(i+1, joined)
			chosen = chosen[:len(chosen)-1]
		}
	}
	group := make([]int, n)
	for v := range group {
		group[v] = v
	}
	choose(0, group)
	return found
}

// glued makes s and t one vertex, the last one takes the number of t, and wires between them are left out.
func glued(n int, wires []api.Wire, s, t int) (int, []api.Wire) {
	number := func(v int) int {
		if v == t {
			v = s
		}
		if v == n-1 && t != n-1 {
			return t
		}
		return v
	}
	var left []api.Wire
	for _, w := range wires {
		if number(w.A) != number(w.B) {
			left = append(left, api.Wire{A: number(w.A), B: number(w.B)})
		}
	}
	return n - 1, left
}

// treeFlow is Kirchhoff's own rule: every spanning tree sends one unit along its way from s to t.
func treeFlow(n int, wires []api.Wire, s, t int) []int {
	sum := make([]int, len(wires))
	for _, tree := range spanning(n, wires) {
		seen := make([]bool, n)
		var walk func(v int) bool
		walk = func(v int) bool {
			seen[v] = true
			if v == t {
				return true
			}
			for _, i := range tree {
				w := wires[i]
				if w.A == v && !seen[w.B] && walk(w.B) {
					sum[i]++
					return true
				}
				if w.B == v && !seen[w.A] && walk(w.A) {
					sum[i]--
					return true
				}
			}
			return false
		}
		walk(s)
	}
	return sum
}

// dissections lists all dissections of w by h into at most MaxSquares squares, in reading order.
func dissections(w, h int) [][]api.Square {
	var found [][]api.Square
	var squares []api.Square
	used := make([][]bool, h)
	for y := range used {
		used[y] = make([]bool, w)
	}
	set := func(x, y, side int, to bool) {
		for j := y; j < y+side; j++ {
			for i := x; i < x+side; i++ {
				used[j][i] = to
			}
		}
	}
	var fill func()
	fill = func() {
		x, y := firstFree(used)
		if y < 0 {
			found = append(found, slices.Clone(squares))
			return
		}
		if len(squares) == api.MaxSquares {
			return
		}
		for side := 1; x+side <= w && y+side <= h && !used[y][x+side-1]; side++ {
			set(x, y, side, true)
			squares = append(squares, api.Square{X: x, Y: y, Side: side})
			fill()
			squares = squares[:len(squares)-1]
			set(x, y, side, false)
		}
	}
	fill()
	return found
}

func firstFree(used [][]bool) (int, int) {
	for y := range used {
		for x := range used[y] {
			if !used[y][x] {
				return x, y
			}
		}
	}
	return -1, -1
}

// paints tells whether squares is a dissection of a small rectangle: it paints its cells.
func paints(w, h int, squares []api.Square) bool {
	painted := map[[2]int]int{}
	for _, s := range squares {
		if s.Side < 1 {
			return false
		}
		for y := s.Y; y < s.Y+s.Side; y++ {
			for x := s.X; x < s.X+s.Side; x++ {
				painted[[2]int{x, y}]++
				if x < 0 || x >= w || y < 0 || y >= h || painted[[2]int{x, y}] > 1 {
					return false
				}
			}
		}
	}
	return len(painted) == w*h
}

// levelNetwork draws the sides into rows of unit edges, and numbers the runs of drawn ones.
func levelNetwork(w, h int, squares []api.Square) (int, []api.Wire) {
	drawn := make([][]bool, h+1)
	for y := range drawn {
		drawn[y] = make([]bool, w)
	}
	for _, s := range squares {
		for x := s.X; x < s.X+s.Side; x++ {
			drawn[s.Y][x], drawn[s.Y+s.Side][x] = true, true
		}
	}
	number := make([][]int, h+1)
	levels := 0
	for y := range drawn {
		number[y] = make([]int, w)
		for x := range drawn[y] {
			if drawn[y][x] && (x == 0 || !drawn[y][x-1]) {
				levels++
			}
			number[y][x] = levels - 1
		}
	}
	wires := make([]api.Wire, len(squares))
	for i, s := range squares {
		wires[i] = api.Wire{A: number[s.Y][s.X], B: number[s.Y+s.Side][s.X]}
	}
	return levels, wires
}

// wantErrno reports an error code that is not the one that is wanted.
func wantErrno(t *testing.T, what string, got, want api.Errno) {
	t.Helper()
	if got != want {
		t.Errorf("%s: error %d, want %d", what, got, want)
	}
}
