package lozenge_test

// P4.1 (Is, Count), P4.2 (Paths), P4.3 (Volumes), P4.8 (three counts) and what P4.9 (symmetry) says of counts.

import (
	"slices"
	"testing"

	"encaustic/api"
	"encaustic/lozenge"
)

func TestCountExamples(t *testing.T) {
	for _, c := range []struct {
		b       api.Box
		count   int
		volumes []int
	}{
		{box(1, 1, 1), 2, []int{1, 1}},
		{box(2, 2, 2), 20, []int{1, 1, 3, 3, 4, 3, 3, 1, 1}},
		{box(1, 1, 4), 5, []int{1, 1, 1, 1, 1}},
		{box(1, 4, 1), 5, []int{1, 1, 1, 1, 1}},
		{box(4, 1, 1), 5, []int{1, 1, 1, 1, 1}},
		{box(1, 2, 2), 6, []int{1, 1, 2, 1, 1}},
		{box(3, 2, 1), 10, []int{1, 1, 2, 2, 2, 1, 1}},
		{box(1, 4, 4), 70, []int{1, 1, 2, 3, 5, 5, 7, 7, 8, 7, 7, 5, 5, 3, 2, 1, 1}},
	} {
		n, e := lozenge.Count(c.b)
		paths, f := lozenge.Paths(c.b)
		if n != c.count || e != api.OK || paths != c.count || f != api.OK {
			t.Errorf("%v: Count %d, %d, Paths %d, %d, want %d", c.b, n, e, paths, f, c.count)
		}
		if list, e := lozenge.Volumes(c.b); !slices.Equal(list, c.volumes) || e != api.OK {
			t.Errorf("Volumes(%v) = %v, %d, want %v", c.b, list, e, c.volumes)
		}
	}
	for side, want := range []int{2, 20, 980, 232848} {
		if n, e := lozenge.Count(box(side+1, side+1, side+1)); n != want || e != api.OK {
			t.Error(side+1, n, e)
		}
	}
}

// determinant is the sum over all ways to take a number from each row and column, with signs.
func determinant(m [][]int, row int, taken []bool) int {
	if row == len(m) {
		return 1
	}
	sum, sign := 0, 1
	for j, n := range m[row] {
		if taken[j] {
			continue
		}
		taken[j] = true
		sum += sign * n * determinant(m, row+1, taken)
		taken[j] = false
		sign = -sign
	}
	return sum
}

// pathMatrix counts the sets of B - i + j of B + C things one by one.
func pathMatrix(b api.Box) [][]int {
	m := filled(box(b.A, b.A, 1), 0)
	for set := range 1 << (b.B + b.C) {
		size := 0
		for things := set; things > 0; things /= 2 {
			size += things % 2
		}
		for i := range m {
			for j := range m {
				if size == b.B-i+j {
					m[i][j]++
				}
			}
		}
	}
	return m
}

// TestThreeCountsAgree compares them, for all boxes, with the number of heaps that there are.
func TestThreeCountsAgree(t *testing.T) {
	for _, b := range allBoxes() {
		want := make([]int, b.A*b.B*b.C+1)
		heaps := 0
		eachHeap(b, func(heap [][]int) {
			want[volume(heap)]++
			heaps++
		})
		n, e := lozenge.Count(b)
		if n != heaps || n != product(b) || e != api.OK {
			t.Errorf("Count(%v) = %d, %d, want %d", b, n, e, heaps)
		}
		paths, e := lozenge.Paths(b)
		if paths != heaps || paths != determinant(pathMatrix(b), 0, make([]bool, b.A)) || e != api.OK {
			t.Errorf("Paths(%v) = %d, %d, want %d", b, paths, e, heaps)
		}
		list, e := lozenge.Volumes(b)
		if !slices.Equal(list, want) || e != api.OK {
			t.Errorf("Volumes(%v) = %v, %d, want %v", b, list, e, want)
		}
	}
}

func TestCountsAreSymmetric(t *testing.T) {
	for _, b := range allBoxes() {
		want, e := lozenge.Count(b)
		must(t, e)
		list, e := lozenge.Volumes(b)
		must(t, e)
		backwards := slices.Clone(list)
		slices.Reverse(backwards)
		if !slices.Equal(list, backwards) {
			t.Errorf("Volumes(%v) = %v", b, list)
		}
		for _, other := range []api.Box{box(b.A, b.C, b.B), transposed(b), box(b.B, b.C, b.A), turned(b), box(b.C, b.B, b.A)} {
			if n, e := lozenge.Count(other); n != want || e != api.OK {
				t.Errorf("Count(%v) = %d, %d, of %v %d", other, n, e, b, want)
			}
		}
	}
}

// TestIsOfAllLists tries all lists with numbers up to one beyond the limits.
func TestIsOfAllLists(t *testing.T) {
	for _, b := range []api.Box{box(1, 1, 1), box(1, 1, 4), box(1, 2, 3), box(2, 1, 3), box(2, 2, 1), box(2, 2, 2), box(2, 2, 4), box(1, 4, 2), box(4, 1, 2), box(3, 2, 1), box(2, 3, 1)} {
		eachList(b, -1, b.C+1, func(heap [][]int) {
			if is, e := lozenge.Is(b, heap); is != isHeap(b, heap) || e != api.OK {
				t.Errorf("Is(%v, %v) = %v, %d", b, heap, is, e)
			}
		})
	}
}

func TestIsOfLargeHeaps(t *testing.T) {
	for _, b := range []api.Box{box(4, 4, 4), box(4, 3, 4), box(3, 4, 2)} {
		for _, heap := range someHeaps(b, 50) {
			for i := range heap {
				for j := range heap[i] {
					for _, change := range []int{-5, -1, 0, 1, 5} {
						heap[i][j] += change
						if is, e := lozenge.Is(b, heap); is != isHeap(b, heap) || e != api.OK {
							t.Errorf("Is(%v, %v) = %v, %d", b, heap, is, e)
						}
						heap[i][j] -= change
					}
				}
			}
		}
	}
}

func TestIsOfOtherShapes(t *testing.T) {
	b := box(2, 3, 2)
	for _, heap := range notHeaps() {
		if is, e := lozenge.Is(b, heap); is || e != api.OK {
			t.Errorf("Is(%v, %v) = %v, %d", b, heap, is, e)
		}
	}
	if is, e := lozenge.Is(b, [][]int{{2, 1, 1}, {2, 1, 0}}); !is || e != api.OK {
		t.Error(is, e)
	}
}

// notHeaps are lists that are no heaps in the box 2 3 2.
func notHeaps() [][][]int {
	return [][][]int{
		nil,
		{},
		{nil, nil},
		{{}, {}},
		{{0, 0, 0}},
		{{0, 0, 0}, nil},
		{nil, {0, 0, 0}},
		{{0, 0, 0}, {0, 0}},
		{{0, 0}, {0, 0, 0}},
		{{0, 0}, {0, 0}},
		{{0, 0}, {0, 0}, {0, 0}},
		{{0, 0, 0}, {0, 0, 0, 0}},
		{{0, 0, 0, 0}, {0, 0, 0}},
		{{0, 0, 0}, {0, 0, 0}, {0, 0, 0}},
		{{0, 0, 0}, {0, 0, 0}, nil},
		{{3, 0, 0}, {0, 0, 0}},
		{{0, 0, 0}, {0, 0, -1}},
		{{0, 0, -1}, {0, 0, -1}},
		{{-1, -1, -1}, {-1, -1, -1}},
		{{1, 2, 0}, {0, 0, 0}},
		{{2, 0, 1}, {0, 0, 0}},
		{{1, 1, 1}, {2, 1, 1}},
		{{1, 1, 0}, {1, 1, 1}},
		{{0, 0, 0}, {0, 0, 1}},
		{{greatest, 0, 0}, {0, 0, 0}},
		{{2, 2, least}, {0, 0, 0}},
		{{2, 2, 1 << 32}, {0, 0, 0}},
		make([][]int, 100000),
		{make([]int, 100000), make([]int, 100000)},
	}
}
