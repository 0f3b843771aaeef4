package weight_test

// P5.7 (Colours) and P5.11 (colourings are weights).

import (
	"slices"
	"testing"

	"encaustic/api"
	"encaustic/weight"
)

func TestColoursExamples(t *testing.T) {
	threeAcross, threeDown := tile(0, 0, 1, 0, 2, 0), tile(0, 0, 0, 1, 0, 2)
	for _, c := range []struct {
		p    problem
		n    int
		want []int
	}{
		// Too many cells for dominoes, whatever the colours.
		{problem{[]string{"##.", "###", ".##"}, dominoes()}, 2, []int{0, 0}},
		{problem{[]string{"##.", "###", ".##"}, dominoes()}, 6, []int{0, 0}},
		// A chessboard without two cells of one colour.
		{problem{[]string{".###", "####", "####", "###."}, dominoes()}, 2, []int{1, 1}},
		{problem{[]string{".###", "####", "####", "###."}, dominoes()}, 3, nil},
		{problem{[]string{".###", "####", "####", "###."}, dominoes()}, 4, []int{1, 1}},
		// Stripes: bars take a cell of each, or three of one.
		{problem{[]string{"##.#"}, []api.Tile{threeAcross, threeDown}}, 2, []int{0, 0}},
		{problem{[]string{"#.##", "####", "#.##"}, []api.Tile{threeAcross}}, 3, []int{0, 0}},
		{problem{[]string{"###", "#..", "##."}, []api.Tile{threeAcross, threeDown}}, 3, []int{0, 1}},
		{problem{[]string{"##", "##", "##"}, []api.Tile{threeAcross, threeDown}}, 3, nil},
		{problem{[]string{"##", "##"}, []api.Tile{tile(0, 0, 1, 0)}}, 2, nil},
		{problem{[]string{".##", "##."}, []api.Tile{tile(0, 0, 1, 0)}}, 2, nil},
		{problem{[]string{"#.", "##", ".#"}, []api.Tile{tile(0, 0, 1, 0)}}, 2, []int{0, 1}},
		{problem{[]string{"#.", "##", ".#"}, dominoes()}, 2, nil},
		{problem{[]string{"#"}, dominoes()}, 2, []int{0, 0}},
		{problem{rectangle(4, 4), []api.Tile{tile(0, 0, 4, 0)}}, 5, []int{0, 0}},
		{problem{rectangle(2, 2), corners()}, 2, []int{0, 0}},
		// Two parts of three cells, which no two colours tell from one another.
		{problem{[]string{"###.", "....", ".###"}, dominoes()}, 2, nil},
		{problem{[]string{"###.", "....", ".###"}, dominoes()}, 3, []int{0, 1}},
	} {
		want := api.OK
		if c.want == nil {
			want = api.ErrPlan
		}
		if got, e := weight.Colours(c.p.r, c.p.tiles, c.n); !slices.Equal(got, c.want) || e != want {
			t.Errorf("Colours(%q, %v, %d) = %v, %d, want %v", c.p.r, c.p.tiles, c.n, got, e, c.want)
		}
	}
}

// refusesByColours tells whether a colouring refuses the floor.
func refusesByColours(p problem, a, b, n int) bool {
	var colours []int
	for _, c := range cellsOf(p.r) {
		colours = append(colours, (a*c.X+b*c.Y)%n)
	}
	var lists [][]int
	for _, list := range covers(p) {
		counts := make([]int, n)
		for _, i := range list {
			counts[colours[i]]++
		}
		lists = append(lists, counts)
	}
	return !isSum(counted(colours, n), lists)
}

func slowColours(p problem, n int) []int {
	for a := range n {
		for b := range n {
			if refusesByColours(p, a, b, n) {
				return []int{a, b}
			}
		}
	}
	return nil
}

// TestColoursAreTheFirst compares with trying all; and where there is a colouring, there are weights.
func TestColoursAreTheFirst(t *testing.T) {
	kinds := map[string]int{}
	for i, p := range append(largeProblems(11, 1200), coloured()...) {
		_, whole := weight.Whole(p.r, p.tiles)
		for n := 2; n <= api.MaxColours; n++ {
			got, e := weight.Colours(p.r, p.tiles, n)
			want := api.OK
			if i%6 == n-2 || e == api.OK {
				if slow := slowColours(p, n); !slices.Equal(got, slow) {
					t.Errorf("Colours(%q, %v, %d) = %v, %d, want %v", p.r, p.tiles, n, got, e, slow)
				}
			}
			if len(got) == 0 {
				want = api.ErrPlan
			}
			if e != want || e == api.OK && whole != api.OK {
				t.Errorf("%q, %v: Colours(%d) = %v, %d, Whole returns %d", p.r, p.tiles, n, got, e, whole)
			}
			switch {
			case e == api.ErrPlan && whole == api.OK:
				kinds["not seen by colours"]++
			case e == api.OK && got[0] > 0 && got[1] > 0:
				kinds["slanting stripes"]++
			case e == api.OK && got[0]+got[1] > 0:
				kinds["straight stripes"]++
			}
		}
	}
	if len(kinds) != 3 {
		t.Errorf("the tests lack problems of some kind: %v", kinds)
	}
}

// coloured are floors with as many cells as their tiles can cover, but not of all colours.
func coloured() []problem {
	var all []problem
	for _, r := range everyFloor(4, 3) {
		cells := len(cellsOf(r))
		if cells%6 == 0 && has(r, 0, 0) {
			all = append(all, problem{r, dominoes()}, problem{r, []api.Tile{tile(0, 0, 1, 0, 2, 0), tile(0, 0, 0, 1, 0, 2)}})
		}
	}
	return all
}

func TestNumbersOfColours(t *testing.T) {
	p := problem{[]string{"##.", "###", ".##"}, dominoes()}
	for n := -3; n <= 10; n++ {
		want := api.OK
		if n < 2 || n > 6 {
			want = api.ErrArg
		}
		if got, e := weight.Colours(p.r, p.tiles, n); e != want || (len(got) == 2) != (want == api.OK) {
			t.Errorf("Colours(%d) = %v, %d", n, got, e)
		}
	}
	for _, n := range []int{least, -1 << 32, 1<<32 + 2, greatest} {
		if got, e := weight.Colours(p.r, p.tiles, n); len(got) != 0 || e != api.ErrArg {
			t.Errorf("Colours(%d) = %v, %d", n, got, e)
		}
	}
}
