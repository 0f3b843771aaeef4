// Package square is layer 1: squared rectangles, the networks that they are, and spanning trees.
// See shared/doc/01-square.md.
package square

import (
	"slices"

	"encaustic/api"
	"encaustic/matrix"
)

// Trees returns the number of spanning trees of a network.
func Trees(n int, wires []api.Wire) (int, api.Errno) {
	if e := checkNetwork(n, wires); e != api.OK {
		return 0, e
	}
	return trees(n, wires), api.OK
}

// Merged returns the number of spanning trees of the network in which s and t are one vertex.
func Merged(n int, wires []api.Wire, s, t int) (int, api.Errno) {
	if e := checkEnds(n, wires, s, t); e != api.OK {
		return 0, e
	}
	return merged(n, wires, s, t), api.OK
}

func checkNetwork(n int, wires []api.Wire) api.Errno {
	if n < 2 || n > api.MaxVertices {
		return api.ErrArg
	}
	if len(wires) > api.MaxWires {
		return api.ErrLimit
	}
	for _, w := range wires {
		if !areTwo(n, w.A, w.B) {
			return api.ErrArg
		}
	}
	return api.OK
}

func checkEnds(n int, wires []api.Wire, s, t int) api.Errno {
	if e := checkNetwork(n, wires); e != api.OK {
		return e
	}
	if !areTwo(n, s, t) {
		return api.ErrArg
	}
	return api.OK
}

// areTwo tells whether a and b are two different vertices.
func areTwo(n, a, b int) bool {
	return 0 <= a && a < n && 0 <= b && b < n && a != b
}

// trees may leave out any vertex: the determinant is the same for all of them (Kirchhoff).
func trees(n int, wires []api.Wire) int {
	return matrix.Determinant(without(laplacian(n, wires), 0))
}

// merged leaves out both s and t: that is the Laplacian of the merged network without the vertex that they have become.
func merged(n int, wires []api.Wire, s, t int) int {
	return matrix.Determinant(without(laplacian(n, wires), s, t))
}

// laplacian is fit for matrix.Determinant: with the few wires of a network none of its numbers comes near an overflow.
func laplacian(n int, wires []api.Wire) [][]int {
	m := make([][]int, n)
	for i := range m {
		m[i] = make([]int, n)
	}
	for _, w := range wires {
		m[w.A][w.A]++
		m[w.B][w.B]++
		m[w.A][w.B]--
		m[w.B][w.A]--
	}
	return m
}

// without returns a copy of a square matrix without some of its rows and the columns of the same numbers.
func without(m [][]int, out ...int) [][]int {
	var rest [][]int
	for i, row := range m {
		if slices.Contains(out, i) {
			continue
		}
		var kept []int
		for j, number := range row {
			if !slices.Contains(out, j) {
				kept = append(kept, number)
			}
		}
		rest = append(rest, kept)
	}
	return rest
}
