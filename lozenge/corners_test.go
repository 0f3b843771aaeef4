package lozenge_test

// P4.6 (Corners) and P4.11 (corners).

import (
	"fmt"
	"slices"
	"testing"

	"encaustic/api"
	"encaustic/lozenge"
)

func cells(numbers ...int) []api.Cell {
	var list []api.Cell
	for i := 0; i < len(numbers); i += 2 {
		list = append(list, api.Cell{X: numbers[i], Y: numbers[i+1]})
	}
	return list
}

func TestCornersExamples(t *testing.T) {
	for _, c := range []struct {
		b         api.Box
		heap      [][]int
		add, take []api.Cell
	}{
		{box(1, 1, 1), [][]int{{0}}, cells(0, 0), nil},
		{box(1, 1, 1), [][]int{{1}}, nil, cells(0, 0)},
		{box(1, 1, 2), [][]int{{1}}, cells(0, 0), cells(0, 0)},
		{box(2, 2, 2), [][]int{{2, 1}, {1, 0}}, cells(1, 0, 0, 1, 1, 1), cells(0, 0, 1, 0, 0, 1)},
		{box(2, 3, 3), [][]int{{3, 3, 1}, {3, 1, 1}}, cells(2, 0, 1, 1), cells(1, 0, 0, 1, 2, 1)},
		{box(3, 1, 4), [][]int{{4}, {2}, {2}}, cells(0, 1), cells(0, 0, 0, 2)},
	} {
		add, take, e := lozenge.Corners(c.b, c.heap)
		if !slices.Equal(add, c.add) || !slices.Equal(take, c.take) || e != api.OK {
			t.Errorf("Corners(%v, %v) = %v, %v, %d, want %v, %v", c.b, c.heap, add, take, e, c.add, c.take)
		}
	}
}

// TestCornersOfHeaps compares with trying each place.
func TestCornersOfHeaps(t *testing.T) {
	for _, b := range allBoxes() {
		for _, heap := range testHeaps(b) {
			wantAdd, wantTake := slowCorners(b, heap)
			add, take, e := lozenge.Corners(b, heap)
			if !slices.Equal(add, wantAdd) || !slices.Equal(take, wantTake) || e != api.OK {
				t.Errorf("Corners(%v, %v) = %v, %v, %d, want %v, %v", b, heap, add, take, e, wantAdd, wantTake)
			}
			if len(add) == 0 && volume(heap) != b.A*b.B*b.C || len(take) == 0 && volume(heap) != 0 {
				t.Errorf("%v, %v: to add %v, to take %v", b, heap, add, take)
			}
		}
	}
}

func TestFullAndEmptyHeaps(t *testing.T) {
	for _, b := range allBoxes() {
		corner := cells(b.B-1, b.A-1)
		if add, take, e := lozenge.Corners(b, filled(b, b.C)); len(add) != 0 || !slices.Equal(take, corner) || e != api.OK {
			t.Errorf("%v, full: %v, %v, %d", b, add, take, e)
		}
		if add, take, e := lozenge.Corners(b, blank(b)); !slices.Equal(add, cells(0, 0)) || len(take) != 0 || e != api.OK {
			t.Errorf("%v, empty: %v, %v, %d", b, add, take, e)
		}
	}
}

// TestAddedCubesCanBeTaken: and that is the heap again; and so with one that was taken.
func TestAddedCubesCanBeTaken(t *testing.T) {
	for _, b := range allBoxes() {
		for _, heap := range testHeaps(b) {
			add, take, e := lozenge.Corners(b, heap)
			must(t, e)
			for _, c := range add {
				more := clone(heap)
				more[c.Y][c.X]++
				if _, back, e := lozenge.Corners(b, more); !slices.Contains(back, c) || e != api.OK {
					t.Errorf("%v, %v: added at %v, then to take: %v, %d", b, heap, c, back, e)
				}
			}
			for _, c := range take {
				fewer := clone(heap)
				fewer[c.Y][c.X]--
				if back, _, e := lozenge.Corners(b, fewer); !slices.Contains(back, c) || e != api.OK {
					t.Errorf("%v, %v: taken at %v, then to add: %v, %d", b, heap, c, back, e)
				}
			}
		}
	}
}

// TestEveryHeapComesOfTheEmptyOne adds cubes in all ways; after each one, Volumes tells how many heaps there are.
func TestEveryHeapComesOfTheEmptyOne(t *testing.T) {
	for _, b := range smallBoxes(5000) {
		level := map[string][][]int{"": blank(b)}
		want, e := lozenge.Volumes(b)
		must(t, e)
		for v, count := range want {
			if len(level) != count {
				t.Errorf("%v: %d heaps of the volume %d, want %d", b, len(level), v, count)
			}
			next := map[string][][]int{}
			for _, heap := range level {
				add, _, e := lozenge.Corners(b, heap)
				must(t, e)
				for _, c := range add {
					more := clone(heap)
					more[c.Y][c.X]++
					next[fmt.Sprint(more)] = more
				}
			}
			level = next
		}
		if len(level) != 0 {
			t.Errorf("%v: a full heap has become %v", b, level)
		}
	}
}
