package domino_test

// P2.2 (Refute, Refutes) and P2.7 (Hall).

import (
	"math/rand"
	"slices"
	"testing"

	"encaustic/api"
	"encaustic/domino"
)

// cellList makes cells of pairs X, Y.
func cellList(numbers ...int) []api.Cell {
	var cells []api.Cell
	for i := 0; i < len(numbers); i += 2 {
		cells = append(cells, api.Cell{X: numbers[i], Y: numbers[i+1]})
	}
	return cells
}

func TestRefutesExamples(t *testing.T) {
	cross := []string{"#.#", "###", "#.#"}
	apart := []string{"#.", ".#"}
	for _, c := range []struct {
		r     []string
		cells []api.Cell
		want  bool
	}{
		{apart, cellList(0, 0, 1, 1), true},
		{apart, cellList(0, 0), true},
		{apart, cellList(1, 1), true},
		{apart, cellList(1, 1, 0, 0), false},
		{apart, cellList(0, 0, 0, 0), false},
		{apart, cellList(1, 0), false},
		{apart, nil, false},
		{apart, []api.Cell{}, false},
		{[]string{"##"}, cellList(0, 0), false},
		{[]string{"##"}, cellList(0, 0, 1, 0), false},
		{[]string{"###"}, cellList(0, 0, 2, 0), true},
		{[]string{"###"}, cellList(0, 0), false},
		{[]string{"###"}, cellList(1, 0), false},
		{[]string{"##.#"}, cellList(0, 0, 3, 0), false},
		{[]string{"##.#"}, cellList(3, 0), true},
		{[]string{"#.#.#"}, cellList(0, 0, 2, 0, 4, 0), true},
		{[]string{"#.#.#"}, cellList(0, 0, 4, 0, 2, 0), false},
		{[]string{".#", "##", ".#"}, cellList(1, 0, 0, 1, 1, 2), true},
		{[]string{".#", "##", ".#"}, cellList(0, 1, 1, 0, 1, 2), false},
		{cross, cellList(0, 0, 2, 0, 1, 1, 0, 2, 2, 2), true},
		{cross, cellList(0, 0, 0, 2), true},
		{cross, cellList(0, 0, 2, 0), false},
		{cross, cellList(0, 1, 2, 1), false},
		{blank(2, 2), nil, false},
		{blank(2, 2), cellList(0, 0), false},
		{apart, cellList(0, 0, 2, 2), false},
		{apart, cellList(0, 0, 8, 0), false},
		{apart, cellList(-1, -1), false},
		{apart, cellList(-8, 1), false},
		{apart, cellList(9, 0), false},
		{apart, cellList(least, least, 0, 0), false},
		{apart, cellList(0, 0, greatest, greatest), false},
		{apart, cellList(1<<32, 0), false},
		{apart, cellList(0, 1<<62), false},
		{[]string{".......#", "#......."}, cellList(7, 0, 0, 1), true},
		{[]string{".......#", "#......."}, cellList(7, 0), true},
		{[]string{".......#", "........", "#......."}, cellList(7, 0, 0, 2), false},
		{[]string{".......#", "........", "#......."}, cellList(0, 2), true},
	} {
		if got := refutes(t, c.r, c.cells); got != c.want {
			t.Errorf("Refutes(%q, %v) = %v", c.r, c.cells, got)
		}
	}
}

// slowlyRefutes does as the document says, one after the other.
func slowlyRefutes(r []string, cells []api.Cell) bool {
	around := map[api.Cell]bool{}
	for i, c := range cells {
		if !has(r, c.X, c.Y) || (c.X+c.Y)%2 != (cells[0].X+cells[0].Y)%2 {
			return false
		}
		if i > 0 && (cells[i-1].Y > c.Y || cells[i-1].Y == c.Y && cells[i-1].X >= c.X) {
			return false
		}
		for _, n := range cellList(c.X-1, c.Y, c.X+1, c.Y, c.X, c.Y-1, c.X, c.Y+1) {
			if has(r, n.X, n.Y) {
				around[n] = true
			}
		}
	}
	return len(around) < len(cells)
}

func TestRefutesAsTheDocumentSays(t *testing.T) {
	r := rand.New(rand.NewSource(4))
	for _, region := range allRegions() {
		for range 20 {
			cells := randomCells(r, region)
			if got, want := refutes(t, region, cells), slowlyRefutes(region, cells); got != want {
				t.Errorf("Refutes(%q, %v) = %v", region, cells, got)
			}
		}
	}
}

// randomCells are mostly cells of the region of one colour in reading order.
func randomCells(r *rand.Rand, region []string) []api.Cell {
	colour, most := r.Intn(2), 1+r.Intn(4)
	var cells []api.Cell
	for _, c := range cellsOf(region) {
		if (c.X+c.Y)%2 == colour && r.Intn(4) < most || r.Intn(50) == 0 {
			cells = append(cells, c)
		}
	}
	if len(cells) > 0 && r.Intn(5) == 0 {
		i, j := r.Intn(len(cells)), r.Intn(len(cells))
		cells[i], cells[j] = cells[j], cells[i]
	}
	if len(cells) > 0 && r.Intn(10) == 0 {
		cells[r.Intn(len(cells))].X += r.Intn(3) - 1
	}
	return cells
}

// TestHall: just one of Tile and Refute succeeds, and what Refute returns refutes.
func TestHall(t *testing.T) {
	for _, r := range allRegions() {
		tiling, e := domino.Tile(r)
		cells, f := domino.Refute(r)
		switch {
		case e == api.OK && f == api.ErrPlan:
			if len(cells) != 0 || !is(t, r, tiling) {
				t.Errorf("%q: Tile %v, Refute %v", r, tiling, cells)
			}
		case e == api.ErrPlan && f == api.OK:
			if len(tiling) != 0 || !refutes(t, r, cells) || !slowlyRefutes(r, cells) {
				t.Errorf("%q: Tile %v, Refute %v", r, tiling, cells)
			}
		default:
			t.Errorf("%q: Tile %v, %d, Refute %v, %d", r, tiling, e, cells, f)
		}
	}
}

// TestWhatRefutesLeavesNoTiling tries all lists of one colour: one refutes if and only if there is no tiling.
func TestWhatRefutesLeavesNoTiling(t *testing.T) {
	for _, r := range append(everyRegion(3, 3), everyRegion(2, 4)...) {
		_, e := domino.Tile(r)
		refuted := false
		for colour := range 2 {
			cells := slices.DeleteFunc(cellsOf(r), func(c api.Cell) bool { return (c.X+c.Y)%2 != colour })
			for chosen := range 1 << len(cells) {
				var list []api.Cell
				for i, c := range cells {
					if chosen>>i&1 == 1 {
						list = append(list, c)
					}
				}
				refuted = refuted || refutes(t, r, list)
			}
		}
		if refuted != (e == api.ErrPlan) || !refuted && e != api.OK {
			t.Errorf("%q: Tile returns %d, a list refutes: %v", r, e, refuted)
		}
	}
}

func TestRefuteExamples(t *testing.T) {
	got, e := domino.Refute([]string{"#.", ".#"})
	if e != api.OK || !slices.Equal(got, cellList(0, 0, 1, 1)) && !slices.Equal(got, cellList(0, 0)) && !slices.Equal(got, cellList(1, 1)) {
		t.Error(got, e)
	}
	// The lone cell is white here, and there each colour has as many cells as the other.
	for _, r := range [][]string{{".#"}, {".#", "##", ".#"}, {"##.#", "...."}, {"#..#"}, {"#.#", "###", "#.#", "..#"}} {
		if cells, e := domino.Refute(r); e != api.OK || !slowlyRefutes(r, cells) {
			t.Errorf("Refute(%q) = %v, %d", r, cells, e)
		}
	}
	for _, r := range [][]string{{"##"}, {"."}, rectangle(8, 8), blank(8, 8)} {
		if cells, e := domino.Refute(r); len(cells) != 0 || e != api.ErrPlan {
			t.Errorf("Refute(%q) = %v, %d, want ErrPlan", r, cells, e)
		}
	}
}
