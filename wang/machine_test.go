package wang_test

// P7.7 (Machine, Run), P7.12 (computing): machines are run step by step, and their tiles are laid under their tapes.

import (
	"math/rand"
	"slices"
	"testing"

	"encaustic/api"
	"encaustic/wang"
)

// machine makes an entry of each name: the symbol, R or L, and the state, or H to halt.
func machine(names ...string) api.Machine {
	m := api.Machine{States: len(names) / 2}
	for _, s := range names {
		e := api.Entry{Write: int(s[0] - '0'), Right: s[1] == 'R', Next: -1}
		if s[2] != 'H' {
			e.Next = int(s[2] - '0')
		}
		m.Table = append(m.Table, e)
	}
	return m
}

// filling writes 1 to the right, up to a 1.
func filling() api.Machine { return machine("1R0", "1RH") }

// beaver writes four times before it halts.
func beaver() api.Machine { return machine("1R1", "1L1", "1L0", "1RH") }

func TestMachineExamples(t *testing.T) {
	one := tiles("0000", "1010", "0021", "0220", "1031", "1230")
	two := tiles("0000", "1010", "0021", "0320", "0042", "0440", "1031", "1330", "1052", "1450")
	for _, c := range []struct {
		m    api.Machine
		want []api.Wang
	}{
		{filling(), append(slices.Clip(one), tiles("2110")...)},
		{machine("0RH", "0LH"), one},
		{machine("0L0", "1L0"), append(slices.Clip(one), tiles("2002", "3012")...)},
		{machine("1L0", "0R0"), append(slices.Clip(one), tiles("2012", "3100")...)},
		{machine("1LH", "1R0"), append(slices.Clip(one), tiles("3110")...)},
		{beaver(), append(slices.Clip(two), tiles("2210", "3014", "4013")...)},
		{machine("0R0", "1R1", "0L0", "1L1"), append(slices.Clip(two), tiles("2100", "3210", "4003", "5014")...)},
		{machine("1LH", "0R0", "0RH", "0R1"), append(slices.Clip(two), tiles("3100", "5200")...)},
		{machine("1LH", "1RH", "0RH", "0LH"), two},
	} {
		if got, e := wang.Machine(c.m); !slices.Equal(got, c.want) || e != api.OK {
			t.Errorf("%v: Machine is %v, %d, want %v", c.m, got, e, c.want)
		}
	}
}

func TestRunExamples(t *testing.T) {
	for _, c := range []struct {
		m         api.Machine
		tape      []int
		steps     int
		left      []int
		at, state int
	}{
		{filling(), []int{0, 0, 1}, 0, []int{0, 0, 1}, 0, 0},
		{filling(), []int{0, 0, 1}, 1, []int{1, 0, 1}, 1, 0},
		{filling(), []int{0, 0, 1}, 2, []int{1, 1, 1}, 2, 0},
		{filling(), []int{0, 0, 1}, 3, []int{1, 1, 1}, 2, -1},
		{filling(), []int{0, 0, 1}, 4, []int{1, 1, 1}, 2, -1},
		{filling(), []int{0}, 1, []int{1}, 1, 0},
		{filling(), []int{0}, 4, []int{1}, 1, 0},
		{filling(), []int{0, 0, 0, 0}, 4, []int{1, 1, 1, 1}, 4, 0},
		{filling(), []int{0, 0, 0, 0}, 3, []int{1, 1, 1, 0}, 3, 0},
		{filling(), []int{1, 0}, 4, []int{1, 0}, 0, -1},
		{machine("1L0", "0R0"), []int{0, 0}, 4, []int{1, 0}, -1, 0},
		{machine("1L0", "0R0"), []int{1, 0}, 4, []int{1, 1}, -1, 0},
		{machine("1L0", "0R0"), []int{1, 1}, 2, []int{0, 0}, 2, 0},
		{machine("1RH", "0LH"), []int{0, 0}, 1, []int{1, 0}, 0, -1},
		{machine("1RH", "0LH"), []int{1, 1}, 4, []int{0, 1}, 0, -1},
		{machine("1L1", "1R1", "1R0", "1R0"), []int{0}, 4, []int{1}, -1, 1},
		{machine("1R1", "1R1", "1R0", "1RH"), []int{0}, 4, []int{1}, 1, 1},
		{beaver(), []int{0, 0, 0, 0}, 0, []int{0, 0, 0, 0}, 0, 0},
		{beaver(), []int{0, 0, 0, 0}, 1, []int{1, 0, 0, 0}, 1, 1},
		{beaver(), []int{0, 0, 0, 0}, 2, []int{1, 1, 0, 0}, 0, 0},
		{beaver(), []int{0, 0, 0, 0}, 3, []int{1, 1, 0, 0}, -1, 1},
		{beaver(), []int{0, 0, 0, 0}, 4, []int{1, 1, 0, 0}, -1, 1},
		{beaver(), []int{0, 1}, 4, []int{1, 1}, 1, -1},
	} {
		left, at, state, e := wang.Run(c.m, c.tape, c.steps)
		if !slices.Equal(left, c.left) || at != c.at || state != c.state || e != api.OK {
			t.Errorf("%v: Run of %v for %d is %v, %d, %d, %d, want %v, %d, %d", c.m, c.tape, c.steps, left, at, state, e, c.left, c.at, c.state)
		}
	}
}

// eachMachine calls f with all machines of one state, and some of those of two.
func eachMachine(f func(m api.Machine)) {
	entries := func(states int) []api.Entry {
		var list []api.Entry
		for i := range 4 * (states + 1) {
			list = append(list, api.Entry{Write: i & 1, Right: i&2 > 0, Next: i/4 - 1})
		}
		return list
	}
	one, two := entries(1), entries(2)
	for _, a := range one {
		for _, b := range one {
			f(api.Machine{States: 1, Table: []api.Entry{a, b}})
		}
	}
	r := rand.New(rand.NewSource(20))
	for range 400 {
		var table []api.Entry
		for range 4 {
			table = append(table, two[r.Intn(len(two))])
		}
		f(api.Machine{States: 2, Table: table})
	}
}

// config is a tape with the head on it, before it or behind it.
type config struct {
	tape      []int
	at, state int
}

// goesOn tells whether there is a next step.
func (c config) goesOn() bool { return c.state >= 0 && c.at >= 0 && c.at < len(c.tape) }

func (c config) next(m api.Machine) config {
	e := m.Table[c.state*2+c.tape[c.at]]
	n := config{slices.Clone(c.tape), c.at - 1, e.Next}
	n.tape[c.at] = e.Write
	if e.Right {
		n.at = c.at + 1
	}
	if e.Next == -1 {
		n.at = c.at
	}
	return n
}

// colours are those of the sides above or below the tape.
func (c config) colours() []int {
	list := slices.Clone(c.tape)
	if c.goesOn() {
		list[c.at] += 2 + 2*c.state
	}
	return list
}

func TestRunIsStepByStep(t *testing.T) {
	eachMachine(func(m api.Machine) {
		for w := 1; w <= 4; w++ {
			eachList(2, w, func(tape []int) {
				c := config{tape: tape}
				for steps := 0; steps <= 4; steps++ {
					left, at, state, e := wang.Run(m, tape, steps)
					if !slices.Equal(left, c.tape) || at != c.at || state != c.state || e != api.OK {
						t.Errorf("%v: Run of %v for %d is %v, %d, %d, %d, want %v", m, tape, steps, left, at, state, e, c)
					}
					if c.goesOn() {
						c = c.next(m)
					}
				}
			})
		}
	})
}

// TestMachineIsSet also counts the tiles: one for each entry that does not halt, and those of cells without the head.
func TestMachineIsSet(t *testing.T) {
	eachMachine(func(m api.Machine) {
		set, e := wang.Machine(m)
		must(t, e)
		want := 2 + 4*m.States
		for _, entry := range m.Table {
			if entry.Next >= 0 {
				want++
			}
		}
		if len(set) != want {
			t.Errorf("%v: %d tiles, want %d: %v", m, len(set), want, set)
		}
		if _, e := wang.Count(set, 1, 1); e != api.OK {
			t.Errorf("%v: %v is no set", m, set)
		}
	})
}

// boardsUnder returns all good boards of h rows with these Norths, and 0 at the left and the right border.
func boardsUnder(set []api.Wang, north []int, h int) [][][]int {
	w := len(north)
	var all [][][]int
	var list []int
	var fill func(low []int, east int)
	fill = func(low []int, east int) {
		i := len(list)
		if i == w*h {
			all = append(all, cut(slices.Clone(list), w))
			return
		}
		x := i % w
		for k, t := range set {
			if t.North == low[x] && t.West == east && (x < w-1 || t.East == 0) {
				next := slices.Clone(low)
				next[x] = t.South
				list = append(list, k)
				fill(next, t.East)
				list = list[:i]
			}
		}
	}
	fill(north, 0)
	return all
}

// TestBoardsCompute lays the tiles under each tape with a head on it, in any state: there is just the board of what the
// machine does, and none that is higher than the steps that it can do.
func TestBoardsCompute(t *testing.T) {
	eachMachine(func(m api.Machine) {
		set, e := wang.Machine(m)
		must(t, e)
		for w := 1; w <= 4; w++ {
			eachList(2, w, func(tape []int) {
				for at := range w {
					for state := range m.States {
						checkBoards(t, m, set, config{tape, at, state})
					}
				}
			})
		}
	})
}

func checkBoards(t *testing.T, m api.Machine, set []api.Wang, start config) {
	t.Helper()
	var rows [][]int
	c := start
	for h := 1; h <= 4; h++ {
		ends := !c.goesOn()
		if !ends {
			c = c.next(m)
			ends = !c.goesOn()
			rows = append(rows, c.colours())
		}
		boards := boardsUnder(set, start.colours(), h)
		if ends {
			if len(boards) > 0 {
				t.Errorf("%v, %v: %v, but it ends", m, start, boards)
			}
			return
		}
		if len(boards) != 1 {
			t.Errorf("%v, %v: %d boards of %d rows", m, start, len(boards), h)
			return
		}
		for y, row := range boards[0] {
			for x, i := range row {
				if set[i].South != rows[y][x] {
					t.Errorf("%v, %v: %v has not the Souths %v", m, start, boards[0], rows)
				}
			}
		}
		checkOfPackage(t, m, set, start, boards[0], rows)
	}
}

// checkOfPackage compares with what Good, Rows and, from the first cell on, Run return.
func checkOfPackage(t *testing.T, m api.Machine, set []api.Wang, start config, board [][]int, rows [][]int) {
	t.Helper()
	if good, _, e := wang.Good(set, board); !good || e != api.OK {
		t.Errorf("%v: Good of %v is %t, %d", set, board, good, e)
	}
	last := rows[len(rows)-1]
	above := start.colours()
	if len(rows) > 1 {
		above = rows[len(rows)-2]
	}
	lists, e := wang.Rows(set, above)
	if e != api.OK || !slices.ContainsFunc(lists, func(list []int) bool { return slices.Equal(list, last) }) {
		t.Errorf("%v: Rows of %v are %v, %d, without %v", set, above, lists, e, last)
	}
	if start.at != 0 || start.state != 0 {
		return
	}
	tape, at, state, e := wang.Run(m, start.tape, len(rows))
	if made := (config{tape, at, state}); e != api.OK || !slices.Equal(made.colours(), last) {
		t.Errorf("%v: Run of %v for %d is %v, %d, want %v", m, start, len(rows), made, e, last)
	}
}

// notMachines are machines that are not valid.
func notMachines() []api.Machine {
	good := beaver()
	list := []api.Machine{
		{},
		{States: 1},
		{States: 2},
		{States: 0, Table: good.Table[:2]},
		{States: 1, Table: good.Table},
		{States: 1, Table: good.Table[3:]},
		{States: 2, Table: good.Table[:2]},
		{States: 2, Table: good.Table[:3]},
		{States: 2, Table: append(good.Table[:4:4], good.Table[0])},
		{States: 1, Table: []api.Entry{{Next: 1}, {}}},
		{States: 3, Table: make([]api.Entry, 6)},
		{States: 2, Table: make([]api.Entry, 100000)},
	}
	for _, n := range []int{least, -1 << 32, -2, -1, 2, 3, 1 << 32, greatest} {
		list = append(list, api.Machine{States: n}, api.Machine{States: n, Table: good.Table[:3]})
		if n != 2 {
			list = append(list, api.Machine{States: n, Table: good.Table})
		}
		for i := range good.Table {
			bad := machine("1R1", "1L1", "1L0", "1RH")
			bad.Table[i].Write = n
			list = append(list, bad)
			bad = machine("1R1", "1L1", "1L0", "1RH")
			if bad.Table[i].Next = n; n != -1 {
				list = append(list, bad)
			}
		}
	}
	return list
}

func TestMachineErrors(t *testing.T) {
	for _, m := range notMachines() {
		if got, e := wang.Machine(m); len(got) != 0 || e != api.ErrArg {
			t.Errorf("%.80v: Machine is %v, %d, want ErrArg", m, got, e)
		}
		for _, tape := range [][]int{{0}, {0, 1, 0, 1}, nil, {2}} {
			for _, steps := range []int{-1, 0, 4, 5} {
				wantNoRun(t, m, tape, steps)
			}
		}
	}
}

func wantNoRun(t *testing.T, m api.Machine, tape []int, steps int) {
	t.Helper()
	if left, at, state, e := wang.Run(m, tape, steps); len(left) != 0 || at != 0 || state != 0 || e != api.ErrArg {
		t.Errorf("%.80v: Run of %.80v for %d is %v, %d, %d, %d, want ErrArg", m, tape, steps, left, at, state, e)
	}
}

func TestRunErrors(t *testing.T) {
	for _, m := range []api.Machine{filling(), beaver()} {
		for _, tape := range [][]int{nil, {}, {2}, {-1}, {0, 2}, {0, 0, 0, 3}, {least}, {1, greatest}, {0, 0, 0, 0, 0}, make([]int, 100000)} {
			wantNoRun(t, m, tape, 0)
			wantNoRun(t, m, tape, 4)
		}
		for _, steps := range []int{least, -1 << 32, -1, 5, 6, 1 << 32, greatest} {
			wantNoRun(t, m, []int{0}, steps)
			wantNoRun(t, m, []int{1, 0, 1, 0}, steps)
		}
	}
}
