package square_test

// P1.2 (Through), P1.3 (Resistance, Chance), P1.7 (area), P1.9 (Foster) and P1.10 (Rayleigh).

import (
	"math/big"
	"reflect"
	"slices"
	"testing"

	"encaustic/api"
	"encaustic/square"
)

func TestThroughExamples(t *testing.T) {
	ring := wiresOf(0, 1, 1, 2, 2, 0)
	bridge := wiresOf(0, 1, 0, 2, 1, 2, 1, 3, 2, 3)
	for _, c := range []struct {
		network
		s, t int
		want api.Flow
	}{
		{network{2, wiresOf(0, 1, 0, 1, 0, 1)}, 0, 1, api.Flow{Currents: []int{1, 1, 1}, Total: 3, Voltage: 1}},
		{network{2, wiresOf(0, 1, 1, 0, 0, 1)}, 0, 1, api.Flow{Currents: []int{1, -1, 1}, Total: 3, Voltage: 1}},
		{network{2, wiresOf(0, 1, 1, 0, 0, 1)}, 1, 0, api.Flow{Currents: []int{-1, 1, -1}, Total: 3, Voltage: 1}},
		{network{3, ring}, 0, 1, api.Flow{Currents: []int{2, -1, -1}, Total: 3, Voltage: 2}},
		{network{3, ring}, 1, 0, api.Flow{Currents: []int{-2, 1, 1}, Total: 3, Voltage: 2}},
		{network{3, wiresOf(0, 1, 1, 2)}, 0, 1, api.Flow{Currents: []int{1, 0}, Total: 1, Voltage: 1}},
		{network{3, wiresOf(0, 1, 1, 2)}, 0, 2, api.Flow{Currents: []int{1, 1}, Total: 1, Voltage: 2}},
		{network{4, bridge}, 0, 3, api.Flow{Currents: []int{4, 4, 0, 4, 4}, Total: 8, Voltage: 8}},
	} {
		got, e := square.Through(c.n, c.wires, c.s, c.t)
		if !reflect.DeepEqual(got, c.want) || e != api.OK {
			t.Errorf("Through(%v, %d, %d) = %v, %d, want %v", c.network, c.s, c.t, got, e, c.want)
		}
	}
}

// TestThroughSumsTheWaysOfTrees compares each flow with Kirchhoff's rule for it.
func TestThroughSumsTheWaysOfTrees(t *testing.T) {
	for _, g := range connectedNetworks() {
		total := len(spanning(g.n, g.wires))
		eachPair(g.n, func(a, b int) {
			got, e := square.Through(g.n, g.wires, a, b)
			want := treeFlow(g.n, g.wires, a, b)
			voltage := len(spanning(glued(g.n, g.wires, a, b)))
			if e != api.OK || !slices.Equal(got.Currents, want) || got.Total != total || got.Voltage != voltage {
				t.Errorf("Through(%v, %d, %d) = %v, %d, want %v, %d, %d", g, a, b, got, e, want, total, voltage)
			}
		})
	}
}

// TestThroughKeepsKirchhoffsLaws checks the laws themselves, and that Total is Trees and Voltage Merged.
func TestThroughKeepsKirchhoffsLaws(t *testing.T) {
	for _, g := range connectedNetworks() {
		trees, _ := square.Trees(g.n, g.wires)
		eachPair(g.n, func(a, b int) {
			f, e := square.Through(g.n, g.wires, a, b)
			merged, _ := square.Merged(g.n, g.wires, a, b)
			if e != api.OK || f.Total != trees || f.Voltage != merged || len(f.Currents) != len(g.wires) {
				t.Fatalf("Through(%v, %d, %d) = %v, %d: Trees is %d, Merged is %d", g, a, b, f, e, trees, merged)
			}
			leaves := make([]int, g.n)
			for i, w := range g.wires {
				leaves[w.A] += f.Currents[i]
				leaves[w.B] -= f.Currents[i]
			}
			for v, much := range leaves {
				if v == a && much != f.Total || v == b && much != -f.Total || v != a && v != b && much != 0 {
					t.Errorf("Through(%v, %d, %d) = %v: %d leaves vertex %d", g, a, b, f, much, v)
				}
			}
			at := potentialsOf(g, f, b)
			for i, w := range g.wires {
				if at[w.A]-at[w.B] != f.Currents[i] {
					t.Errorf("Through(%v, %d, %d) = %v: no potentials", g, a, b, f)
				}
			}
			if at[a] != f.Voltage {
				t.Errorf("Through(%v, %d, %d) = %v: the potential of s is %d", g, a, b, f, at[a])
			}
		})
	}
}

// potentialsOf goes along wires from t, whose potential is 0, and adds the currents up.
func potentialsOf(g network, f api.Flow, t int) []int {
	at := make([]int, g.n)
	known := make([]bool, g.n)
	known[t] = true
	for range g.n {
		for i, w := range g.wires {
			if known[w.A] && !known[w.B] {
				at[w.B], known[w.B] = at[w.A]-f.Currents[i], true
			}
			if known[w.B] && !known[w.A] {
				at[w.A], known[w.A] = at[w.B]+f.Currents[i], true
			}
		}
	}
	return at
}

func TestNotConnected(t *testing.T) {
	for _, g := range someNetworks() {
		if len(spanning(g.n, g.wires)) > 0 {
			continue
		}
		eachPair(g.n, func(a, b int) {
			f, e := square.Through(g.n, g.wires, a, b)
			r, er := square.Resistance(g.n, g.wires, a, b)
			if e != api.ErrPlan || !isZero(f) || er != api.ErrPlan || !isZero(r) {
				t.Errorf("%v, %d, %d: Through %v, %d, Resistance %v, %d", g, a, b, f, e, r, er)
			}
		})
		for i := range g.wires {
			if c, e := square.Chance(g.n, g.wires, i); e != api.ErrPlan || !isZero(c) {
				t.Errorf("Chance(%v, %d) = %v, %d", g, i, c, e)
			}
		}
	}
}

func TestResistanceExamples(t *testing.T) {
	for _, c := range []struct {
		network
		s, t int
		want api.Pace
	}{
		{network{2, wiresOf(0, 1, 1, 0, 0, 1)}, 0, 1, api.Pace{Num: 1, Den: 3}},
		{network{3, wiresOf(0, 1, 1, 2, 2, 0)}, 0, 1, api.Pace{Num: 2, Den: 3}},
		{network{3, wiresOf(0, 1, 1, 2)}, 2, 0, api.Pace{Num: 2, Den: 1}},
		{network{4, wiresOf(0, 1, 1, 2, 2, 3, 3, 0)}, 0, 2, api.Pace{Num: 1, Den: 1}},
		{network{4, wiresOf(0, 1, 0, 2, 0, 3, 1, 2, 1, 3, 2, 3)}, 3, 1, api.Pace{Num: 1, Den: 2}},
	} {
		got, e := square.Resistance(c.n, c.wires, c.s, c.t)
		if got != c.want || e != api.OK {
			t.Errorf("Resistance(%v, %d, %d) = %v, %d, want %v", c.network, c.s, c.t, got, e, c.want)
		}
	}
}

// ratioOf is how big.Rat brings a number into lowest terms.
func ratioOf(part, total int) api.Pace {
	r := big.NewRat(int64(part), int64(total))
	return api.Pace{Num: int(r.Num().Int64()), Den: int(r.Denom().Int64())}
}

func TestResistanceIsVoltageByTotal(t *testing.T) {
	for _, g := range connectedNetworks() {
		total := len(spanning(g.n, g.wires))
		eachPair(g.n, func(a, b int) {
			want := ratioOf(len(spanning(glued(g.n, g.wires, a, b))), total)
			if got, e := square.Resistance(g.n, g.wires, a, b); got != want || e != api.OK {
				t.Errorf("Resistance(%v, %d, %d) = %v, %d, want %v", g, a, b, got, e, want)
			}
		})
	}
}

func TestChanceIsTheShareOfTrees(t *testing.T) {
	ring := wiresOf(0, 1, 1, 2, 2, 0)
	if c, e := square.Chance(3, ring, 1); c != (api.Pace{Num: 2, Den: 3}) || e != api.OK {
		t.Error(c, e)
	}
	if c, e := square.Chance(3, wiresOf(0, 1, 1, 2, 1, 2), 0); c != (api.Pace{Num: 1, Den: 1}) || e != api.OK {
		t.Error(c, e)
	}
	for _, g := range connectedNetworks() {
		trees := spanning(g.n, g.wires)
		for i := range g.wires {
			have := 0
			for _, tree := range trees {
				if slices.Contains(tree, i) {
					have++
				}
			}
			want := ratioOf(have, len(trees))
			if got, e := square.Chance(g.n, g.wires, i); got != want || e != api.OK {
				t.Errorf("Chance(%v, %d) = %v, %d, want %v", g, i, got, e, want)
			}
		}
	}
}

func TestChanceErrors(t *testing.T) {
	ring := wiresOf(0, 1, 1, 2, 2, 0)
	for _, c := range []struct {
		network
		wire int
		want api.Errno
	}{
		{network{3, ring}, -1, api.ErrNone},
		{network{3, ring}, 3, api.ErrNone},
		{network{3, ring}, 16, api.ErrNone},
		{network{3, ring}, least, api.ErrNone},
		{network{3, ring}, greatest, api.ErrNone},
		{network{2, nil}, 0, api.ErrNone},
		{network{3, ring[:1]}, 1, api.ErrNone},
		{network{3, ring[:1]}, -1, api.ErrNone},
		{network{3, ring[:1]}, 0, api.ErrPlan},
		{network{3, wiresOf(0, 0)}, 5, api.ErrArg},
		{network{2, manyWires(17)}, 17, api.ErrLimit},
		{network{2, manyWires(17)}, 16, api.ErrLimit},
		{network{1, nil}, 0, api.ErrArg},
		{network{9, nil}, -1, api.ErrArg},
	} {
		got, e := square.Chance(c.n, c.wires, c.wire)
		if e != c.want || !isZero(got) {
			t.Errorf("Chance(%v, %d) = %v, %d, want the error %d", c.network, c.wire, got, e, c.want)
		}
	}
	if c, e := square.Chance(2, manyWires(16), 15); c != (api.Pace{Num: 1, Den: 16}) || e != api.OK {
		t.Error(c, e)
	}
}

// TestArea is P1.7.
func TestArea(t *testing.T) {
	for _, g := range connectedNetworks() {
		eachPair(g.n, func(a, b int) {
			f, e := square.Through(g.n, g.wires, a, b)
			back, eb := square.Through(g.n, g.wires, b, a)
			if e != api.OK || eb != api.OK || back.Total != f.Total || back.Voltage != f.Voltage {
				t.Fatalf("Through(%v, %d, %d) = %v, %d, and back %v, %d", g, a, b, f, e, back, eb)
			}
			area := 0
			for i, c := range f.Currents {
				area += c * c
				if back.Currents[i] != -c {
					t.Errorf("Through(%v, %d, %d) = %v, and back %v", g, a, b, f, back)
				}
			}
			if area != f.Total*f.Voltage {
				t.Errorf("Through(%v, %d, %d) = %v: the area is %d", g, a, b, f, area)
			}
		})
	}
}

func resistance(t *testing.T, n int, wires []api.Wire, a, b int) *big.Rat {
	r, e := square.Resistance(n, wires, a, b)
	if e != api.OK || r.Den <= 0 {
		t.Fatalf("Resistance(%d, %v, %d, %d) = %v, %d", n, wires, a, b, r, e)
	}
	return big.NewRat(int64(r.Num), int64(r.Den))
}

// TestFoster is P1.9.
func TestFoster(t *testing.T) {
	for _, g := range connectedNetworks() {
		sum := new(big.Rat)
		for i, w := range g.wires {
			r, er := square.Resistance(g.n, g.wires, w.A, w.B)
			c, ec := square.Chance(g.n, g.wires, i)
			if r != c || er != api.OK || ec != api.OK {
				t.Errorf("%v, wire %d: Resistance %v, %d, Chance %v, %d", g, i, r, er, c, ec)
			}
			sum.Add(sum, resistance(t, g.n, g.wires, w.A, w.B))
		}
		if sum.Cmp(big.NewRat(int64(g.n-1), 1)) != 0 {
			t.Errorf("%v: the Resistances sum to %v", g, sum)
		}
	}
}

// TestRayleigh is the first part of P1.10.
func TestRayleigh(t *testing.T) {
	for _, g := range connectedNetworks() {
		if len(g.wires) == api.MaxWires {
			continue
		}
		for more := range g.n - 1 {
			wires := append(slices.Clone(g.wires), api.Wire{A: more, B: g.n - 1})
			eachPair(g.n, func(a, b int) {
				if resistance(t, g.n, wires, a, b).Cmp(resistance(t, g.n, g.wires, a, b)) > 0 {
					t.Errorf("%v: the Resistance from %d to %d grows with one wire more", g, a, b)
				}
			})
		}
	}
}

// TestMetric is the second part of P1.10.
func TestMetric(t *testing.T) {
	for _, g := range connectedNetworks() {
		eachPair(g.n, func(a, b int) {
			direct := resistance(t, g.n, g.wires, a, b)
			if direct.Sign() <= 0 || direct.Cmp(resistance(t, g.n, g.wires, b, a)) != 0 {
				t.Errorf("%v: the Resistance from %d to %d is %v, and back another one", g, a, b, direct)
			}
			for u := range g.n {
				if u == a || u == b {
					continue
				}
				first, second := resistance(t, g.n, g.wires, a, u), resistance(t, g.n, g.wires, u, b)
				if direct.Cmp(first.Add(first, second)) > 0 {
					t.Errorf("%v: it is nearer from %d to %d by %d", g, a, b, u)
				}
			}
		})
	}
}
