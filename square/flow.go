package square

import (
	"encaustic/api"
	"encaustic/matrix"
)

// Through returns the flow from s to t by Kirchhoff's laws.
func Through(n int, wires []api.Wire, s, t int) (api.Flow, api.Errno) {
	if e := checkEnds(n, wires, s, t); e != api.OK {
		return api.Flow{}, e
	}
	total := trees(n, wires)
	if total == 0 {
		return api.Flow{}, api.ErrPlan
	}
	at := potentials(n, wires, s, t)
	currents := make([]int, len(wires))
	for i, w := range wires {
		currents[i] = at[w.A] - at[w.B]
	}
	return api.Flow{Currents: currents, Total: total, Voltage: at[s] - at[t]}, api.OK
}

// Resistance returns the voltage between s and t divided by the total that flows.
func Resistance(n int, wires []api.Wire, s, t int) (api.Pace, api.Errno) {
	if e := checkEnds(n, wires, s, t); e != api.OK {
		return api.Pace{}, e
	}
	return quotient(merged(n, wires, s, t), trees(n, wires))
}

// Chance returns the share of the spanning trees that have the wire with that index.
func Chance(n int, wires []api.Wire, wire int) (api.Pace, api.Errno) {
	if e := checkNetwork(n, wires); e != api.OK {
		return api.Pace{}, e
	}
	if wire < 0 || wire >= len(wires) {
		return api.Pace{}, api.ErrNone
	}
	// A tree that has the wire becomes, when the wire shrinks to a point, a tree of the merged network, and back.
	w := wires[wire]
	return quotient(merged(n, wires, w.A, w.B), trees(n, wires))
}

// potentials solves Kirchhoff's equations by Cramer's rule, with the potential 0 at t.
// What is divided by there is the number of trees; it is left out, since exactly that much is to flow.
func potentials(n int, wires []api.Wire, s, t int) []int {
	at := make([]int, n)
	for v := range at {
		if v == t {
			continue
		}
		m := laplacian(n, wires)
		for row := range m {
			m[row][v] = 0
		}
		m[s][v] = 1
		at[v] = matrix.Determinant(without(m, t))
	}
	return at
}

// quotient is ErrPlan if total, a number of trees, is 0: then the network is not connected.
func quotient(part, total int) (api.Pace, api.Errno) {
	if total == 0 {
		return api.Pace{}, api.ErrPlan
	}
	d := divisor(part, total)
	return api.Pace{Num: part / d, Den: total / d}, api.OK
}

// divisor returns the greatest common divisor of two numbers that are not both 0.
func divisor(a, b int) int {
	for b != 0 {
		a, b = b, a%b
	}
	return a
}
