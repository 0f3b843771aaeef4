package lozenge_test

// P4.4 (Rank, Heap) and P4.10 (ranks).

import (
	"slices"
	"testing"

	"encaustic/api"
	"encaustic/lozenge"
)

func TestRankExamples(t *testing.T) {
	for _, c := range []struct {
		b    api.Box
		heap [][]int
		want int
	}{
		{box(1, 1, 1), [][]int{{0}}, 0},
		{box(1, 1, 1), [][]int{{1}}, 1},
		{box(2, 2, 2), [][]int{{2, 1}, {1, 0}}, 10},
		{box(2, 2, 2), [][]int{{0, 0}, {0, 0}}, 0},
		{box(2, 2, 2), [][]int{{1, 0}, {0, 0}}, 1},
		{box(2, 2, 2), [][]int{{2, 2}, {2, 2}}, 19},
		{box(1, 2, 3), [][]int{{3, 0}}, 6},
		{box(2, 1, 3), [][]int{{3}, {1}}, 7},
	} {
		if n, e := lozenge.Rank(c.b, c.heap); n != c.want || e != api.OK {
			t.Errorf("Rank(%v, %v) = %d, %d, want %d", c.b, c.heap, n, e, c.want)
		}
		if heap, e := lozenge.Heap(c.b, c.want); !areSame(heap, c.heap) || e != api.OK {
			t.Errorf("Heap(%v, %d) = %v, %d, want %v", c.b, c.want, heap, e, c.heap)
		}
	}
}

// checkRank wants a heap to have a rank, and back.
func checkRank(t *testing.T, b api.Box, heap [][]int, want int) {
	t.Helper()
	if n, e := lozenge.Rank(b, heap); n != want || e != api.OK {
		t.Errorf("Rank(%v, %v) = %d, %d, want %d", b, heap, n, e, want)
	}
	if back, e := lozenge.Heap(b, want); !areSame(back, heap) || e != api.OK {
		t.Errorf("Heap(%v, %d) = %v, %d, want %v", b, want, back, e, heap)
	}
}

// TestRanksOfAllBoxes goes through all heaps of all boxes in order, and looks at all of a small box.
func TestRanksOfAllBoxes(t *testing.T) {
	for _, b := range allBoxes() {
		count := product(b)
		step, at := 1+count/2000, 0
		eachHeap(b, func(heap [][]int) {
			if at%step == 0 || at == count-1 {
				checkRank(t, b, heap, at)
			}
			at++
		})
	}
}

func TestNoSuchRank(t *testing.T) {
	for _, b := range allBoxes() {
		for _, rank := range []int{least, -1 << 32, -1, product(b), product(b) + 1, 1 << 32, 1 << 62, greatest} {
			if heap, e := lozenge.Heap(b, rank); len(heap) != 0 || e != api.ErrRange {
				t.Errorf("Heap(%v, %d) = %v, %d, want ErrRange", b, rank, heap, e)
			}
		}
		if heap, e := lozenge.Heap(b, product(b)-1); !areSame(heap, filled(b, b.C)) || e != api.OK {
			t.Errorf("%v: the last heap is %v, %d", b, heap, e)
		}
	}
}

// TestRanksGrow compares heaps as lists.
func TestRanksGrow(t *testing.T) {
	for _, b := range []api.Box{box(4, 4, 4), box(2, 4, 3), box(4, 1, 3), box(1, 3, 4)} {
		heaps := someHeaps(b, 60)
		for _, g := range heaps {
			for _, h := range heaps {
				less := slices.Compare(slices.Concat(g...), slices.Concat(h...)) < 0
				if m, n := rankOf(t, b, g), rankOf(t, b, h); m < n != less {
					t.Errorf("%v: %v has the rank %d, %v %d", b, g, m, h, n)
				}
			}
		}
	}
}
