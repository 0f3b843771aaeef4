package wang

import (
	"slices"

	"encaustic/api"
)

// halted is the state of a machine that has halted.
const halted = -1

const maxStates = 2

// symbols is how many symbols a cell of a tape can have.
const symbols = 2

func isMachine(m api.Machine) bool {
	if m.States < 1 || m.States > maxStates || len(m.Table) != symbols*m.States {
		return false
	}
	for _, e := range m.Table {
		if isNoSymbol(e.Write) || e.Next < halted || e.Next >= m.States {
			return false
		}
	}
	return true
}

func isNoSymbol(n int) bool { return n < 0 || n >= symbols }

func isTape(tape []int) bool {
	return isMeasure(len(tape)) && !slices.ContainsFunc(tape, isNoSymbol)
}

// headed is the colour of a cell with the head, above or below it.
func headed(state, symbol int) int { return symbols + symbols*state + symbol }

// rightward is the colour of a side over which the head goes to the right.
func rightward(state int) int { return 1 + state }

// leftward is the colour of a side over which the head goes to the left.
func leftward(m api.Machine, state int) int { return 1 + m.States + state }

// tilesOf returns the tiles of cells that stay, then those of cells to which the head comes, then those that it leaves.
func tilesOf(m api.Machine) []api.Wang {
	var set []api.Wang
	for s := range symbols {
		set = append(set, api.Wang{North: s, South: s})
	}
	for s := range symbols {
		for q := range m.States {
			set = append(set,
				api.Wang{North: s, South: headed(q, s), West: rightward(q)},
				api.Wang{North: s, South: headed(q, s), East: leftward(m, q)})
		}
	}
	for i, e := range m.Table {
		if e.Next == halted {
			continue
		}
		t := api.Wang{North: headed(i/symbols, i%symbols), South: e.Write}
		if e.Right {
			t.East = rightward(e.Next)
		} else {
			t.West = leftward(m, e.Next)
		}
		set = append(set, t)
	}
	return set
}

// run returns the tape, the place of the head and the state after at most so many steps.
func run(m api.Machine, tape []int, steps int) ([]int, int, int) {
	tape = slices.Clone(tape)
	at, state := 0, 0
	for range steps {
		if state == halted || at < 0 || at >= len(tape) {
			break
		}
		e := m.Table[symbols*state+tape[at]]
		tape[at] = e.Write
		at += stride(e)
		state = e.Next
	}
	return tape, at, state
}

// stride is how far to the right the head goes.
func stride(e api.Entry) int {
	switch {
	case e.Next == halted:
		return 0
	case e.Right:
		return 1
	default:
		return -1
	}
}
