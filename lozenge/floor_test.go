package lozenge_test

// P4.7 (Floor) and P4.12 (floors).

import (
	"cmp"
	"fmt"
	"slices"
	"testing"

	"encaustic/api"
	"encaustic/lozenge"
)

func tile(kind, x, y int) api.Lozenge { return api.Lozenge{Kind: kind, X: x, Y: y} }

func TestFloorExamples(t *testing.T) {
	for _, c := range []struct {
		b    api.Box
		heap [][]int
		want []api.Lozenge
	}{
		{box(1, 1, 1), [][]int{{0}}, []api.Lozenge{tile(0, 0, 0), tile(1, 0, 0), tile(2, 0, 0)}},
		{box(1, 1, 1), [][]int{{1}}, []api.Lozenge{tile(0, 0, 1), tile(1, 1, 0), tile(2, -1, -1)}},
		{box(1, 2, 1), [][]int{{1, 0}}, []api.Lozenge{tile(0, 0, 1), tile(0, 1, 0), tile(1, 1, 0), tile(2, -1, -1), tile(2, 1, 0)}},
		{box(2, 1, 2), [][]int{{2}, {1}}, []api.Lozenge{
			tile(0, -1, 0), tile(0, 0, 2),
			tile(1, -1, 0), tile(1, 0, -1), tile(1, 1, 0), tile(1, 1, 1),
			tile(2, -2, -2), tile(2, -1, 0)}},
	} {
		if got, e := lozenge.Floor(c.b, c.heap); !slices.Equal(got, c.want) || e != api.OK {
			t.Errorf("Floor(%v, %v) = %v, %d, want %v", c.b, c.heap, got, e, c.want)
		}
	}
}

// slowFloor looks from each wall, and from above, at the first place without a cube.
func slowFloor(b api.Box, heap [][]int) []api.Lozenge {
	cubes := cubesOf(heap)
	var list []api.Lozenge
	for i := range b.A {
		for j := range b.B {
			k := 0
			for cubes[cube{i, j, k}] {
				k++
			}
			list = append(list, tile(0, j-i, k-i))
		}
		for k := range b.C {
			j := 0
			for cubes[cube{i, j, k}] {
				j++
			}
			list = append(list, tile(1, j-i, k-i))
		}
	}
	for j := range b.B {
		for k := range b.C {
			i := 0
			for cubes[cube{i, j, k}] {
				i++
			}
			list = append(list, tile(2, j-i, k-i))
		}
	}
	slices.SortFunc(list, order)
	return list
}

func order(a, b api.Lozenge) int {
	return cmp.Or(a.Kind-b.Kind, a.X-b.X, a.Y-b.Y)
}

// triangle is known by the sum of its three points.
type triangle struct{ x, y int }

// triangles are the two halves of a lozenge, on both sides of the short diagonal from its point to the opposite one.
func triangles(l api.Lozenge) [2]triangle {
	steps := [3]api.Cell{{X: -1, Y: -1}, {X: 1}, {Y: 1}} // a row on, a place on, a cube up
	one, other := steps[[3]int{0, 0, 1}[l.Kind]], steps[[3]int{1, 2, 2}[l.Kind]]
	far := triangle{3*l.X + one.X + other.X, 3*l.Y + one.Y + other.Y}
	return [2]triangle{{far.x + one.X, far.y + one.Y}, {far.x + other.X, far.y + other.Y}}
}

// hexagon has all triangles whose three points are seen of some point of the box.
func hexagon(b api.Box) map[triangle]bool {
	inside := func(x, y int) bool {
		return -b.A <= x && x <= b.B && -b.A <= y && y <= b.C && -b.B <= y-x && y-x <= b.C
	}
	all := map[triangle]bool{}
	for x := -5; x <= 5; x++ {
		for y := -5; y <= 5; y++ {
			if inside(x, y) && inside(x+1, y) && inside(x+1, y+1) {
				all[triangle{3*x + 2, 3*y + 1}] = true
			}
			if inside(x, y) && inside(x, y+1) && inside(x+1, y+1) {
				all[triangle{3*x + 1, 3*y + 2}] = true
			}
		}
	}
	return all
}

// checkTiling wants the hexagon to be covered just once.
func checkTiling(t *testing.T, b api.Box, floor []api.Lozenge) {
	t.Helper()
	open := hexagon(b)
	if len(open) != 2*(b.A*b.B+b.B*b.C+b.C*b.A) {
		t.Fatalf("%v: a hexagon of %d triangles", b, len(open))
	}
	for _, l := range floor {
		for _, half := range triangles(l) {
			if !open[half] {
				t.Errorf("%v: %v: %v covers what is covered, or outside", b, floor, l)
			}
			delete(open, half)
		}
	}
	if len(open) > 0 {
		t.Errorf("%v: %v leaves %v open", b, floor, open)
	}
}

func TestFloorsOfHeaps(t *testing.T) {
	for _, b := range allBoxes() {
		for _, heap := range testHeaps(b) {
			floor, e := lozenge.Floor(b, heap)
			if want := slowFloor(b, heap); !slices.Equal(floor, want) || e != api.OK {
				t.Errorf("Floor(%v, %v) = %v, %d, want %v", b, heap, floor, e, want)
			}
			if !slices.IsSortedFunc(floor, order) {
				t.Errorf("%v, %v: %v is out of order", b, heap, floor)
			}
			checkTiling(t, b, floor)
			checkKinds(t, b, floor)
		}
	}
}

func checkKinds(t *testing.T, b api.Box, floor []api.Lozenge) {
	t.Helper()
	counts := map[int]int{}
	for _, l := range floor {
		counts[l.Kind]++
	}
	if len(counts) != 3 || counts[0] != b.A*b.B || counts[1] != b.A*b.C || counts[2] != b.B*b.C {
		t.Errorf("%v: %v has the kinds %v", b, floor, counts)
	}
}

func TestFloorsAreDifferent(t *testing.T) {
	for _, b := range smallBoxes(5000) {
		seen := map[string]bool{}
		eachHeap(b, func(heap [][]int) {
			floor, e := lozenge.Floor(b, heap)
			must(t, e)
			text := fmt.Sprint(floor)
			if seen[text] {
				t.Errorf("%v, %v: another heap has the floor %s", b, heap, text)
			}
			seen[text] = true
		})
	}
}
