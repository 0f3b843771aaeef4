package lozenge_test

// P4.5 (Complement, Transpose, Turn), P4.6 (Fixed) and what P4.9 (symmetry) says of heaps.

import (
	"testing"

	"encaustic/api"
	"encaustic/lozenge"
)

// change is a function that makes a heap of a heap, the box of the result, and the slow way.
type change struct {
	name string
	of   func(api.Box, [][]int) ([][]int, api.Errno)
	to   func(api.Box) api.Box
	slow func(api.Box, [][]int) [][]int
}

func changes() []change {
	same := func(b api.Box) api.Box { return b }
	return []change{
		{"Complement", lozenge.Complement, same, slowComplement},
		{"Transpose", lozenge.Transpose, transposed, slowTranspose},
		{"Turn", lozenge.Turn, turned, slowTurn},
	}
}

func TestChangeExamples(t *testing.T) {
	for _, c := range []struct {
		b                           api.Box
		heap                        [][]int
		complement, transpose, turn [][]int
	}{
		{box(2, 2, 2), [][]int{{2, 1}, {1, 0}}, [][]int{{2, 1}, {1, 0}}, [][]int{{2, 1}, {1, 0}}, [][]int{{2, 1}, {1, 0}}},
		{box(1, 2, 3), [][]int{{3, 1}}, [][]int{{2, 0}}, [][]int{{3}, {1}}, [][]int{{2}, {1}, {1}}},
		{box(2, 3, 2), [][]int{{2, 2, 1}, {1, 0, 0}}, [][]int{{2, 2, 1}, {1, 0, 0}}, [][]int{{2, 1}, {2, 0}, {1, 0}}, [][]int{{3, 1}, {2, 0}}},
		{box(2, 1, 4), [][]int{{4}, {1}}, [][]int{{3}, {0}}, [][]int{{4, 1}}, [][]int{{1, 1}, {1, 0}, {1, 0}, {1, 0}}},
	} {
		for i, want := range [][][]int{c.complement, c.transpose, c.turn} {
			if got, e := changes()[i].of(c.b, c.heap); !areSame(got, want) || e != api.OK {
				t.Errorf("%s(%v, %v) = %v, %d, want %v", changes()[i].name, c.b, c.heap, got, e, want)
			}
		}
	}
}

// TestChangesOfHeaps compares with what happens to the cubes.
func TestChangesOfHeaps(t *testing.T) {
	for _, b := range allBoxes() {
		for _, heap := range testHeaps(b) {
			for _, c := range changes() {
				got, e := c.of(b, heap)
				if want := c.slow(b, heap); !areSame(got, want) || e != api.OK {
					t.Errorf("%s(%v, %v) = %v, %d, want %v", c.name, b, heap, got, e, want)
				}
				if is, e := lozenge.Is(c.to(b), got); !is || e != api.OK {
					t.Errorf("%s(%v, %v): %v is no heap", c.name, b, heap, got)
				}
			}
		}
	}
}

// TestChangesComeBack: Complement and Transpose twice, and Turn three times, is the heap.
func TestChangesComeBack(t *testing.T) {
	for _, b := range allBoxes() {
		for _, heap := range testHeaps(b) {
			for i, c := range changes() {
				times := []int{2, 2, 3}[i]
				at, in := heap, b
				for range times {
					next, e := c.of(in, at)
					must(t, e)
					at, in = next, c.to(in)
				}
				if in != b || !areSame(at, heap) {
					t.Errorf("%s, %d times: %v has become %v", c.name, times, heap, at)
				}
			}
		}
	}
}

func TestVolumesOfChanges(t *testing.T) {
	for _, b := range allBoxes() {
		for _, heap := range testHeaps(b) {
			want := volume(heap)
			rest, _ := lozenge.Complement(b, heap)
			columns, _ := lozenge.Transpose(b, heap)
			around, _ := lozenge.Turn(b, heap)
			if volume(rest) != b.A*b.B*b.C-want || volume(columns) != want || volume(around) != want {
				t.Errorf("%v, %v: %v, %v, %v", b, heap, rest, columns, around)
			}
		}
	}
}

// TestFixedExamples: in cubes of the sides 1 to 4; there are known formulas for all of these.
func TestFixedExamples(t *testing.T) {
	for i, want := range [][]int{{2, 0, 2, 2, 0}, {20, 4, 10, 5, 2}, {980, 0, 112, 20, 0}, {232848, 400, 2772, 132, 84}} {
		for how, count := range want {
			b := box(i+1, i+1, i+1)
			if n, e := lozenge.Fixed(b, how); n != count || e != api.OK {
				t.Errorf("Fixed(%v, %d) = %d, %d, want %d", b, how, n, e, count)
			}
		}
	}
}

// slowFixed tells whether a symmetry is one of the box, and how many of its heaps do not change.
func slowFixed(b api.Box, how int) (int, bool) {
	square, cube := b.A == b.B, b.A == b.B && b.B == b.C
	change := func(heap [][]int) [][]int { return heap }
	switch {
	case how == 0:
	case how == 1:
		change = func(heap [][]int) [][]int { return slowComplement(b, heap) }
	case how == 2 && square:
		change = func(heap [][]int) [][]int { return slowTranspose(b, heap) }
	case how == 3 && cube:
		change = func(heap [][]int) [][]int { return slowTurn(b, heap) }
	case how == 4 && square:
		change = func(heap [][]int) [][]int { return slowComplement(b, slowTranspose(b, heap)) }
	default:
		return 0, false
	}
	count := 0
	eachHeap(b, func(heap [][]int) {
		if areSame(change(heap), heap) {
			count++
		}
	})
	return count, true
}

func TestFixedOfSmallBoxes(t *testing.T) {
	for _, b := range smallBoxes(30000) {
		for how := -3; how <= 8; how++ {
			want, ok := slowFixed(b, how)
			code := api.OK
			if !ok {
				code = api.ErrArg
			}
			if n, e := lozenge.Fixed(b, how); n != want || e != code {
				t.Errorf("Fixed(%v, %d) = %d, %d, want %d, %d", b, how, n, e, want, code)
			}
		}
	}
}

// TestFixedOfLargeBoxes: a box that is not a square has no Transpose, and one that is no cube no Turn.
func TestFixedOfLargeBoxes(t *testing.T) {
	for _, b := range allBoxes() {
		for how, ok := range []bool{true, true, b.A == b.B, b.A == b.B && b.B == b.C, b.A == b.B, false} {
			code := api.OK
			if !ok {
				code = api.ErrArg
			}
			if n, e := lozenge.Fixed(b, how); e != code || e != api.OK && n != 0 || how == 0 && n != product(b) {
				t.Errorf("Fixed(%v, %d) = %d, %d, want error %d", b, how, n, e, code)
			}
		}
	}
}

func TestNoSuchSymmetry(t *testing.T) {
	for _, how := range []int{least, least + 1, -1 << 32, -1, 5, 6, 1 << 32, 1<<32 + 1, greatest} {
		if n, e := lozenge.Fixed(box(2, 2, 2), how); n != 0 || e != api.ErrArg {
			t.Errorf("Fixed of %d: %d, %d", how, n, e)
		}
	}
}
