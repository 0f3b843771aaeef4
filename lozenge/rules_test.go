package lozenge_test

// The errors that all functions have, P1 (no panic, for all arguments), P2 (the result depends only on the arguments),
// and the rule about memory.

import (
	"fmt"
	"reflect"
	"slices"
	"sync"
	"testing"

	"encaustic/api"
	"encaustic/lozenge"
)

// call is what a function returned: its result, written down, and whether that is the zero value.
type call struct {
	name, result string
	zero         bool
	errno        api.Errno
}

// callOf takes the results of a function: lists, numbers and bools.
func callOf(name string, e api.Errno, results ...any) call {
	c := call{name, fmt.Sprint(results...), true, e}
	for _, r := range results {
		v := reflect.ValueOf(r)
		empty := v.Kind() == reflect.Slice && v.Len() == 0
		c.zero = c.zero && (empty || v.IsZero())
	}
	return c
}

// ofHeap calls the functions that have an argument that stands for a heap, but for Is.
func ofHeap(b api.Box, heap [][]int) []call {
	var list []call
	n, e := lozenge.Rank(b, heap)
	list = append(list, callOf("Rank", e, n))
	for _, c := range changes() {
		got, e := c.of(b, heap)
		list = append(list, callOf(c.name, e, got))
	}
	add, take, e := lozenge.Corners(b, heap)
	list = append(list, callOf("Corners", e, add, take))
	floor, e := lozenge.Floor(b, heap)
	return append(list, callOf("Floor", e, floor))
}

// ofBox calls the others.
func ofBox(b api.Box, heap [][]int, number int) []call {
	var list []call
	is, e := lozenge.Is(b, heap)
	list = append(list, callOf("Is", e, is))
	n, e := lozenge.Count(b)
	list = append(list, callOf("Count", e, n))
	n, e = lozenge.Paths(b)
	list = append(list, callOf("Paths", e, n))
	volumes, e := lozenge.Volumes(b)
	list = append(list, callOf("Volumes", e, volumes))
	got, e := lozenge.Heap(b, number)
	list = append(list, callOf("Heap", e, got))
	n, e = lozenge.Fixed(b, number)
	return append(list, callOf("Fixed", e, n))
}

func everything(b api.Box, heap [][]int, number int) []call {
	return append(ofBox(b, heap, number), ofHeap(b, heap)...)
}

// wantErrors wants just one error, and zero values.
func wantErrors(t *testing.T, b api.Box, list []call, want api.Errno) {
	t.Helper()
	for _, c := range list {
		if c.errno != want || !c.zero {
			t.Errorf("%v: %s is %.60s, %d, want error %d", b, c.name, c.result, c.errno, want)
		}
	}
}

// TestErrorOfNoBox: it comes before those of a rank, of a symmetry and of a list that is no heap.
func TestErrorOfNoBox(t *testing.T) {
	for _, b := range notBoxes() {
		for _, heap := range [][][]int{nil, {}, {{0, 0}, {0, 0}}, {{2, 1}, {1, 0}}, {{9}}} {
			for _, number := range []int{least, -1, 0, 1, 2, 3, 4, 5, 20, greatest} {
				wantErrors(t, b, everything(b, heap, number), api.ErrArg)
			}
		}
	}
}

func TestErrorOfNoHeap(t *testing.T) {
	b := box(2, 3, 2)
	for _, heap := range notHeaps() {
		wantErrors(t, b, ofHeap(b, heap), api.ErrArg)
	}
	for _, b := range []api.Box{box(1, 1, 1), box(1, 2, 3), box(2, 2, 2), box(3, 1, 1), box(2, 2, 1)} {
		eachList(b, -1, b.C+1, func(heap [][]int) {
			want := api.ErrArg
			if isHeap(b, heap) {
				want = api.OK
			}
			for _, c := range ofHeap(b, heap) {
				if c.errno != want || want != api.OK && !c.zero {
					t.Errorf("%v, %v: %s is %s, %d", b, heap, c.name, c.result, c.errno)
				}
			}
		})
	}
}

// ints are numbers inside and outside all limits.
func ints() []int {
	return []int{least, least + 1, -1 << 32, -1, 0, 1, 2, 4, 5, 19, 20, 1 << 32, 1 << 62, greatest - 1, greatest}
}

func TestNoArgumentPanics(t *testing.T) {
	heaps := append(notHeaps(), [][]int{{0}}, [][]int{{1, 0}, {1, 0}}, filled(box(4, 4, 4), 4), filled(box(5, 5, 5), 5))
	for _, x := range ints() {
		for _, y := range ints() {
			heaps = append(heaps, [][]int{{x, y}, {y, x}})
			for _, z := range ints() {
				everything(box(x, y, z), [][]int{{x, y}, {y, z}}, z)
			}
		}
	}
	for _, b := range append(notBoxes(), box(1, 1, 1), box(2, 2, 2), box(2, 3, 2), box(1, 4, 1)) {
		for i, heap := range heaps {
			everything(b, heap, ints()[i%len(ints())])
		}
	}
}

// TestResultsDependOnArguments calls everything again, backwards and in several goroutines at once.
func TestResultsDependOnArguments(t *testing.T) {
	boxes := smallBoxes(1000)
	first := make([][]call, len(boxes))
	results := func(i int) []call { return everything(boxes[i], someHeaps(boxes[i], 3)[2], i%5) }
	for i := range boxes {
		first[i] = results(i)
	}
	for i := len(boxes) - 1; i >= 0; i-- {
		if again := results(i); !slices.Equal(again, first[i]) {
			t.Errorf("%v: first %v and then %v", boxes[i], first[i], again)
		}
	}
	var group sync.WaitGroup
	for i := range boxes {
		group.Go(func() {
			if again := results(i); !slices.Equal(again, first[i]) {
				t.Errorf("%v: first %v and in a goroutine %v", boxes[i], first[i], again)
			}
		})
	}
	group.Wait()
}

// TestArgumentsStay gives rows and lists with room behind them, which must stay as it is too.
func TestArgumentsStay(t *testing.T) {
	for _, b := range allBoxes() {
		for _, heap := range someHeaps(b, 4) {
			kept := clone(heap)
			roomy := [][]int{}
			for _, row := range heap {
				roomy = append(roomy, append(slices.Clone(row), 77)[:len(row)])
			}
			roomy = append(roomy, []int{77})
			ofHeap(b, roomy[:b.A])
			if is, e := lozenge.Is(b, roomy[:b.A]); !is || e != api.OK || !areSame(roomy[:b.A], kept) || !areSame(roomy[b.A:], [][]int{{77}}) {
				t.Errorf("%v: %v has become %v, %d", b, kept, roomy, e)
			}
			for i, row := range roomy[:b.A] {
				if behind := row[:b.B+1][b.B]; behind != 77 {
					t.Errorf("%v, %v: %d behind the row %d", b, kept, behind, i)
				}
			}
		}
	}
}

// spoil overwrites a list and the room behind it.
func spoil[T any](list []T, with T) {
	list = list[:cap(list)]
	for i := range list {
		list[i] = with
	}
}

// TestResultsAreNewMemory spoils one result, and looks at the argument, and at results from before and after that.
func TestResultsAreNewMemory(t *testing.T) {
	for _, b := range []api.Box{box(1, 1, 1), box(2, 2, 2), box(2, 3, 4), box(4, 4, 3), box(3, 3, 3)} {
		for _, heap := range someHeaps(b, 5) {
			given, want := clone(heap), everything(b, heap, 1)
			volumes, _ := lozenge.Volumes(b)
			spoil(volumes, 99)
			add, take, _ := lozenge.Corners(b, heap)
			spoil(add, api.Cell{X: 99, Y: 99})
			if _, other := slowCorners(b, clone(heap)); !slices.Equal(take, other) {
				t.Errorf("%v, %v: with what can be added, %v was spoiled", b, heap, take)
			}
			spoil(take, api.Cell{X: 99, Y: 99})
			floor, _ := lozenge.Floor(b, heap)
			spoil(floor, tile(9, 9, 9))
			spoilHeaps(t, b, heap)
			if again := everything(b, heap, 1); !areSame(heap, given) || !slices.Equal(again, want) {
				t.Errorf("%v, %v: first %v and then, of %v, %v", b, given, want, heap, again)
			}
		}
	}
}

// spoilHeaps spoils the heaps that are results row by row: no row of the same one, or of one from before, may change.
func spoilHeaps(t *testing.T, b api.Box, heap [][]int) {
	t.Helper()
	makers := []func() ([][]int, api.Errno){func() ([][]int, api.Errno) { return lozenge.Heap(b, 1) }}
	for _, c := range changes() {
		makers = append(makers, func() ([][]int, api.Errno) { return c.of(b, heap) })
	}
	for _, maker := range makers {
		before, e := maker()
		must(t, e)
		want := clone(before)
		spoiled, e := maker()
		must(t, e)
		for i := range spoiled {
			spoil(spoiled[i], 99)
			if !areSame(spoiled[i+1:], want[i+1:]) {
				t.Errorf("%v, %v: with the row %d, other rows were spoiled: %v", b, heap, i, spoiled)
			}
		}
		spoil(spoiled, nil)
		if !areSame(before, want) {
			t.Errorf("%v, %v: %v has become %v", b, heap, want, before)
		}
	}
}
