package square_test

// P1 (no panic, for all arguments), P2 (the result depends only on the arguments), and the rule about memory.

import (
	"fmt"
	"reflect"
	"slices"
	"sync"
	"testing"

	"encaustic/api"
	"encaustic/square"
)

// ints are numbers inside and outside all limits.
func ints() []int {
	return []int{least, least + 1, -1 << 32, -1, 0, 1, 2, 3, 7, 8, 9, 16, 17, 1000, 1001, 1 << 32, greatest - 1, greatest}
}

func TestNoArgumentPanics(t *testing.T) {
	lists := [][]api.Wire{nil, {}, wiresOf(0, 1), wiresOf(0, 1, 1, 2, 2, 0), manyWires(16), manyWires(17), manyWires(5000)}
	for _, a := range ints() {
		for _, b := range ints() {
			lists = append(lists, wiresOf(a, b), wiresOf(0, 1, a, b))
		}
	}
	for _, n := range ints() {
		for _, wires := range lists {
			square.Trees(n, wires)
			for _, a := range ints() {
				square.Chance(n, wires, a)
			}
		}
		for _, wires := range lists[:7] {
			for _, a := range ints() {
				for _, b := range ints() {
					square.Merged(n, wires, a, b)
					square.Through(n, wires, a, b)
					square.Resistance(n, wires, a, b)
				}
			}
		}
	}
}

func TestNoRectanglePanics(t *testing.T) {
	lists := [][]api.Square{nil, {}, units(1, 1), units(4, 4), units(17, 1), make([]api.Square, 5000)}
	for _, x := range ints() {
		for _, y := range ints() {
			for _, side := range ints() {
				lists = append(lists, squaresOf(x, y, side))
			}
		}
	}
	sides := []int{least, -1, 0, 1, 2, 1000, 1001, greatest}
	for _, w := range sides {
		for _, h := range sides {
			for _, squares := range lists {
				square.Is(w, h, squares)
				square.Network(w, h, squares)
			}
			square.Cut(w, h)
		}
	}
}

// everything writes down all results for a network and a dissection.
func everything(g network, d dissection) string {
	text := fmt.Sprintln(square.Trees(g.n, g.wires))
	eachPair(g.n, func(a, b int) {
		text += fmt.Sprintln(square.Merged(g.n, g.wires, a, b))
		text += fmt.Sprintln(square.Through(g.n, g.wires, a, b))
		text += fmt.Sprintln(square.Resistance(g.n, g.wires, a, b))
	})
	for i := range g.wires {
		text += fmt.Sprintln(square.Chance(g.n, g.wires, i))
	}
	text += fmt.Sprintln(square.Is(d.w, d.h, d.squares))
	text += fmt.Sprintln(square.Network(d.w, d.h, d.squares))
	return text + fmt.Sprintln(square.Cut(d.w, d.h))
}

// TestResultsDependOnArguments calls everything again, backwards and in several goroutines at once.
func TestResultsDependOnArguments(t *testing.T) {
	networks, floors := someNetworks(), someDissections()
	first := make([]string, len(networks))
	for i, g := range networks {
		first[i] = everything(g, floors[i])
	}
	for i := len(networks) - 1; i >= 0; i-- {
		if again := everything(networks[i], floors[i]); again != first[i] {
			t.Errorf("%v, %v: first\n%sand then\n%s", networks[i], floors[i], first[i], again)
		}
	}
	var group sync.WaitGroup
	for i, g := range networks {
		group.Go(func() {
			if again := everything(g, floors[i]); again != first[i] {
				t.Errorf("%v, %v: first\n%sand in a goroutine\n%s", g, floors[i], first[i], again)
			}
		})
	}
	group.Wait()
}

// TestArgumentsStay gives lists with room behind them, which must stay as it is too.
func TestArgumentsStay(t *testing.T) {
	for i, g := range someNetworks() {
		d := someDissections()[i]
		wires := append(slices.Clone(g.wires), wiresOf(-7, -7, -7, -7)...)
		squares := append(slices.Clone(d.squares), squaresOf(-7, -7, -7)...)
		keptWires, keptSquares := slices.Clone(wires), slices.Clone(squares)
		everything(network{g.n, wires[:len(g.wires)]}, dissection{d.w, d.h, squares[:len(d.squares)]})
		if !slices.Equal(wires, keptWires) || !slices.Equal(squares, keptSquares) {
			t.Errorf("%v, %v: changed to %v, %v", g, d, wires, squares)
		}
	}
}

// TestResultsAreNewMemory spoils results, and the room behind them, and arguments after the call.
func TestResultsAreNewMemory(t *testing.T) {
	ring := wiresOf(0, 1, 1, 2, 2, 0)
	one, _ := square.Through(3, ring, 0, 1)
	two, _ := square.Through(3, ring, 0, 1)
	for i := range one.Currents[:cap(one.Currents)] {
		one.Currents[:cap(one.Currents)][i] = 99
	}
	ring[0] = api.Wire{A: 2, B: 1}
	if want := (api.Flow{Currents: []int{2, -1, -1}, Total: 3, Voltage: 2}); !reflect.DeepEqual(two, want) {
		t.Error(two)
	}
	squares := nine()
	_, first, _ := square.Network(33, 32, squares)
	_, second, _ := square.Network(33, 32, squares)
	kept := slices.Clone(second)
	for i := range first[:cap(first)] {
		first[:cap(first)][i] = api.Wire{A: 99, B: 99}
	}
	clear(squares)
	if _, third, _ := square.Network(33, 32, nine()); !slices.Equal(second, kept) || !slices.Equal(third, kept) {
		t.Error(second, third)
	}
	cut, _ := square.Cut(5, 3)
	next, _ := square.Cut(5, 3)
	for i := range cut[:cap(cut)] {
		cut[:cap(cut)][i] = api.Square{}
	}
	if last, _ := square.Cut(5, 3); !slices.Equal(next, greedy(0, 0, 5, 3)) || !slices.Equal(last, next) {
		t.Error(next, last)
	}
}
