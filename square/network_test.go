package square_test

// P1.1 (Trees, Merged) and P1.6 (Kirchhoff), and the errors of everything that takes a network.

import (
	"reflect"
	"slices"
	"testing"

	"encaustic/api"
	"encaustic/square"
)

func TestTreesExamples(t *testing.T) {
	for _, c := range []struct {
		network
		want int
	}{
		{network{2, wiresOf(0, 1, 1, 0, 0, 1)}, 3},
		{network{3, wiresOf(0, 1, 1, 2, 2, 0)}, 3},
		{network{4, wiresOf(0, 1, 0, 2, 0, 3, 1, 2, 1, 3, 2, 3)}, 16},
		{network{8, wiresOf(0, 4, 0, 5, 0, 6, 0, 7, 1, 4, 1, 5, 1, 6, 1, 7, 2, 4, 2, 5, 2, 6, 2, 7, 3, 4, 3, 5, 3, 6, 3, 7)}, 4096},
		{network{2, manyWires(16)}, 16},
		{network{2, nil}, 0},
		{network{2, []api.Wire{}}, 0},
		{network{3, wiresOf(1, 2, 2, 1)}, 0},
		{network{3, wiresOf(0, 1, 0, 1)}, 0},
		{network{4, wiresOf(0, 1, 2, 3)}, 0},
	} {
		got, e := square.Trees(c.n, c.wires)
		if got != c.want || e != api.OK {
			t.Errorf("Trees(%v) = %d, %d, want %d", c.network, got, e, c.want)
		}
	}
}

func TestTreesCountsSpanningTrees(t *testing.T) {
	for _, g := range someNetworks() {
		got, e := square.Trees(g.n, g.wires)
		if want := len(spanning(g.n, g.wires)); got != want || e != api.OK {
			t.Errorf("Trees(%v) = %d, %d, want %d", g, got, e, want)
		}
	}
}

func TestMergedExamples(t *testing.T) {
	ring := wiresOf(0, 1, 1, 2, 2, 0)
	for _, c := range []struct {
		network
		s, t, want int
	}{
		{network{2, wiresOf(0, 1, 1, 0, 0, 1)}, 0, 1, 1},
		{network{2, nil}, 0, 1, 1},
		{network{2, nil}, 1, 0, 1},
		{network{3, ring}, 0, 1, 2},
		{network{3, wiresOf(0, 2)}, 0, 1, 1},
		{network{3, wiresOf(0, 1, 1, 0)}, 0, 1, 0},
		{network{4, wiresOf(0, 1, 2, 3)}, 1, 2, 1},
		{network{4, wiresOf(0, 1, 2, 3)}, 0, 1, 0},
	} {
		got, e := square.Merged(c.n, c.wires, c.s, c.t)
		if got != c.want || e != api.OK {
			t.Errorf("Merged(%v, %d, %d) = %d, %d, want %d", c.network, c.s, c.t, got, e, c.want)
		}
	}
}

func TestMergedCountsTreesOfTheMergedNetwork(t *testing.T) {
	for _, g := range someNetworks() {
		eachPair(g.n, func(a, b int) {
			got, e := square.Merged(g.n, g.wires, a, b)
			if want := len(spanning(glued(g.n, g.wires, a, b))); got != want || e != api.OK {
				t.Errorf("Merged(%v, %d, %d) = %d, %d, want %d", g, a, b, got, e, want)
			}
		})
	}
}

// TestTreesIsAnyLaplacianDeterminant is P1.6, with determinants that are expanded by their rows.
func TestTreesIsAnyLaplacianDeterminant(t *testing.T) {
	for _, g := range someNetworks() {
		got, _ := square.Trees(g.n, g.wires)
		for out := range g.n {
			if want := expand(laplacianWithout(g, out)); got != want {
				t.Errorf("Trees(%v) = %d, but the determinant without %d is %d", g, got, out, want)
			}
		}
	}
}

func laplacianWithout(g network, out int) [][]int {
	var m [][]int
	for i := range g.n {
		var row []int
		for j := range g.n {
			if i != out && j != out {
				row = append(row, laplacianEntry(g, i, j))
			}
		}
		if i != out {
			m = append(m, row)
		}
	}
	return m
}

func laplacianEntry(g network, i, j int) int {
	number := 0
	for _, w := range g.wires {
		if i == j && (w.A == i || w.B == i) {
			number++
		}
		if i != j && (w == api.Wire{A: i, B: j} || w == api.Wire{A: j, B: i}) {
			number--
		}
	}
	return number
}

func expand(m [][]int) int {
	if len(m) == 0 {
		return 1
	}
	sum, sign := 0, 1
	for j, number := range m[0] {
		if number != 0 {
			var smaller [][]int
			for _, row := range m[1:] {
				smaller = append(smaller, slices.Concat(row[:j], row[j+1:]))
			}
			sum += sign * number * expand(smaller)
		}
		sign = -sign
	}
	return sum
}

// calls are all functions that take a network, with a good choice of what else they take.
func calls(n int, wires []api.Wire) map[string]func() (any, api.Errno) {
	return map[string]func() (any, api.Errno){
		"Trees":      func() (any, api.Errno) { v, e := square.Trees(n, wires); return v, e },
		"Merged":     func() (any, api.Errno) { v, e := square.Merged(n, wires, 0, 1); return v, e },
		"Through":    func() (any, api.Errno) { v, e := square.Through(n, wires, 0, 1); return v, e },
		"Resistance": func() (any, api.Errno) { v, e := square.Resistance(n, wires, 0, 1); return v, e },
		"Chance":     func() (any, api.Errno) { v, e := square.Chance(n, wires, 0); return v, e },
	}
}

// isZero takes an empty slice for nil, since with an error a slice may be either.
func isZero(v any) bool {
	if f, ok := v.(api.Flow); ok {
		return len(f.Currents) == 0 && f.Total == 0 && f.Voltage == 0
	}
	return reflect.ValueOf(v).IsZero()
}

func TestErrorsOfANetwork(t *testing.T) {
	bad := func(w api.Wire, count int) []api.Wire { return append(manyWires(count), w) }
	for _, c := range []struct {
		what string
		network
		want api.Errno
	}{
		{"no vertices", network{0, nil}, api.ErrArg},
		{"one vertex", network{1, nil}, api.ErrArg},
		{"a negative number of vertices", network{-1, wiresOf(0, 1)}, api.ErrArg},
		{"nine vertices", network{9, wiresOf(0, 1)}, api.ErrArg},
		{"the least number of vertices", network{least, wiresOf(0, 1)}, api.ErrArg},
		{"the greatest number of vertices", network{greatest, wiresOf(0, 1)}, api.ErrArg},
		{"one vertex and too many wires", network{1, manyWires(17)}, api.ErrArg},
		{"nine vertices and too many wires", network{9, manyWires(17)}, api.ErrArg},
		{"too many wires", network{2, manyWires(17)}, api.ErrLimit},
		{"far too many wires", network{8, manyWires(1000)}, api.ErrLimit},
		{"too many wires, the first one bad", network{2, append(wiresOf(0, 0), manyWires(16)...)}, api.ErrLimit},
		{"too many wires, the last one bad", network{2, bad(api.Wire{A: 5, B: 1}, 16)}, api.ErrLimit},
		{"a loop", network{2, wiresOf(0, 0)}, api.ErrArg},
		{"a loop at the last vertex", network{3, wiresOf(0, 1, 1, 2, 2, 2)}, api.ErrArg},
		{"a loop at no vertex", network{2, wiresOf(2, 2)}, api.ErrArg},
		{"A too great", network{2, wiresOf(2, 0)}, api.ErrArg},
		{"B too great", network{2, wiresOf(0, 2)}, api.ErrArg},
		{"A negative", network{2, wiresOf(-1, 0)}, api.ErrArg},
		{"B negative", network{2, wiresOf(0, -1)}, api.ErrArg},
		{"A the least", network{8, wiresOf(least, 0)}, api.ErrArg},
		{"B the least", network{8, wiresOf(0, least)}, api.ErrArg},
		{"A the greatest", network{8, wiresOf(greatest, 0)}, api.ErrArg},
		{"B the greatest", network{8, wiresOf(0, greatest)}, api.ErrArg},
		{"the sixteenth wire bad", network{2, bad(api.Wire{A: 1, B: 2}, 15)}, api.ErrArg},
		{"a bad wire in the middle", network{3, wiresOf(0, 1, 1, 3, 1, 2)}, api.ErrArg},
	} {
		for name, call := range calls(c.n, c.wires) {
			v, e := call()
			wantErrno(t, name+" of "+c.what, e, c.want)
			if !isZero(v) {
				t.Errorf("%s of %s: result %v with an error", name, c.what, v)
			}
		}
	}
}

func TestNetworksAtTheLimits(t *testing.T) {
	full := append(wiresOf(0, 1, 1, 2, 2, 3, 3, 4, 4, 5, 5, 6, 6, 7), manyWires(9)...)
	for _, g := range []network{{2, wiresOf(1, 0)}, {2, manyWires(16)}, {8, full}} {
		for name, call := range calls(g.n, g.wires) {
			_, e := call()
			wantErrno(t, name, e, api.OK)
		}
	}
}

// TestErrorsOfEnds has s and t that are not two different vertices: that comes after the wires, and before ErrPlan.
func TestErrorsOfEnds(t *testing.T) {
	for _, c := range []struct {
		network
		s, t int
		want api.Errno
	}{
		{network{3, wiresOf(0, 1, 1, 2)}, 0, 0, api.ErrArg},
		{network{3, wiresOf(0, 1, 1, 2)}, 2, 2, api.ErrArg},
		{network{3, wiresOf(0, 1, 1, 2)}, 3, 3, api.ErrArg},
		{network{3, wiresOf(0, 1, 1, 2)}, 0, 3, api.ErrArg},
		{network{3, wiresOf(0, 1, 1, 2)}, 3, 0, api.ErrArg},
		{network{3, wiresOf(0, 1, 1, 2)}, -1, 0, api.ErrArg},
		{network{3, wiresOf(0, 1, 1, 2)}, 0, -1, api.ErrArg},
		{network{3, wiresOf(0, 1, 1, 2)}, least, greatest, api.ErrArg},
		{network{3, wiresOf(0, 1, 1, 2)}, greatest, 1, api.ErrArg},
		{network{3, wiresOf(0, 1, 1, 2)}, 1, least, api.ErrArg},
		{network{3, wiresOf(0, 1)}, 1, 1, api.ErrArg},
		{network{3, nil}, 0, 3, api.ErrArg},
		{network{3, wiresOf(0, 0)}, 1, 1, api.ErrArg},
		{network{3, manyWires(17)}, 1, 1, api.ErrLimit},
		{network{9, manyWires(17)}, 1, 1, api.ErrArg},
	} {
		v, e := square.Merged(c.n, c.wires, c.s, c.t)
		f, ef := square.Through(c.n, c.wires, c.s, c.t)
		r, er := square.Resistance(c.n, c.wires, c.s, c.t)
		wantErrno(t, "Merged", e, c.want)
		wantErrno(t, "Through", ef, c.want)
		wantErrno(t, "Resistance", er, c.want)
		if v != 0 || !isZero(f) || !isZero(r) {
			t.Errorf("%v, %d, %d: results %v %v %v with errors", c.network, c.s, c.t, v, f, r)
		}
	}
}
