package weight_test

// P5.6 (Tilings), P5.10 (tilings) and P5.12 (turns).

import (
	"math/rand"
	"slices"
	"testing"

	"encaustic/api"
	"encaustic/domino"
	"encaustic/weight"
)

func TestTilingsExamples(t *testing.T) {
	threeAcross, threeDown := tile(0, 0, 1, 0, 2, 0), tile(0, 0, 0, 1, 0, 2)
	for _, c := range []struct {
		p    problem
		want int
	}{
		{problem{[]string{"###", "###", "##."}, dominoes()}, 4},
		{problem{[]string{"##.", "###", ".##"}, dominoes()}, 0},
		{problem{rectangle(3, 3), []api.Tile{threeAcross}}, 1},
		{problem{rectangle(3, 3), []api.Tile{threeAcross, threeDown}}, 2},
		{problem{rectangle(4, 4), dominoes()}, 36},
		{problem{rectangle(4, 4), append(dominoes(), tile(0, 0))}, 10012},
		{problem{rectangle(2, 2), corners()}, 0},
		{problem{rectangle(3, 2), corners()}, 2},
		{problem{rectangle(4, 4), []api.Tile{tile(0, 0)}}, 1},
		{problem{[]string{"#..#", "....", "....", "#..#"}, []api.Tile{tile(0, 0, 3, 0), tile(0, 0, 0, 3), tile(0, 0, 3, 3), tile(0, 0, -3, 3)}}, 3},
		{problem{[]string{"##", "#."}, pairs()}, 0},
		{problem{rectangle(4, 4), []api.Tile{tile(0, 0, 4, 0)}}, 0},
		{problem{[]string{"#"}, dominoes()}, 0},
	} {
		if got := tilings(t, c.p); got != c.want {
			t.Errorf("Tilings(%q, %v) = %d, want %d", c.p.r, c.p.tiles, got, c.want)
		}
	}
}

// TestTilingsAreCounted compares with taking or leaving each put.
func TestTilingsAreCounted(t *testing.T) {
	for _, p := range allProblems() {
		if got, want := tilings(t, p), slowTilings(p); got != want {
			t.Errorf("Tilings(%q, %v) = %d, want %d", p.r, p.tiles, got, want)
		}
	}
}

// TestTilingsByDominoes are those of layer 2.
func TestTilingsByDominoes(t *testing.T) {
	random := rand.New(rand.NewSource(8))
	for range 300 {
		r := randomFloor(random, 1+random.Intn(4), 1+random.Intn(4), 9)
		want, e := domino.Count(r)
		if got := tilings(t, problem{r, dominoes()}); got != want || e != api.OK {
			t.Errorf("Tilings(%q) = %d, Count %d, %d", r, got, want, e)
		}
	}
}

// TestTilingsCannotBeRefused: where there is a tiling, nothing refutes it.
func TestTilingsCannotBeRefused(t *testing.T) {
	tiled := 0
	for i, p := range append(largeProblems(9, 3000), smallProblems()...) {
		if tilings(t, p) == 0 {
			continue
		}
		tiled++
		_, signed := weight.Signed(p.r, p.tiles)
		_, shares := weight.Shares(p.r, p.tiles)
		_, whole := weight.Whole(p.r, p.tiles)
		_, above := weight.Above(p.r, p.tiles)
		if signed != api.OK || shares != api.OK || whole != api.ErrPlan || above != api.ErrPlan {
			t.Errorf("%q, %v: Signed %d, Shares %d, Whole %d, Above %d", p.r, p.tiles, signed, shares, whole, above)
		}
		n := 2 + i%5
		if c, e := weight.Colours(p.r, p.tiles, n); len(c) != 0 || e != api.ErrPlan {
			t.Errorf("%q, %v: Colours(%d) = %v, %d", p.r, p.tiles, n, c, e)
		}
	}
	if tiled < 300 {
		t.Errorf("only %d problems have tilings", tiled)
	}
}

// TestTurnedFloors have as many tilings by tiles that are all Turns of some.
func TestTurnedFloors(t *testing.T) {
	random := rand.New(rand.NewSource(10))
	some := 0
	for range 3000 {
		var tiles []api.Tile
		for range 3 {
			turns, e := weight.Turns(randomTile(random))
			if e != api.OK {
				t.Fatal(e)
			}
			valid := !slices.ContainsFunc(turns, func(next api.Tile) bool { return !isTile(next) })
			known := len(tiles) > 0 && slices.ContainsFunc(tiles, func(next api.Tile) bool { return slices.Equal(next, turns[0]) })
			if valid && !known && len(tiles)+len(turns) <= api.MaxTiles {
				tiles = append(tiles, turns...)
			}
		}
		if len(tiles) == 0 {
			continue
		}
		r := randomFloor(random, 1+random.Intn(4), 1+random.Intn(4), 7+random.Intn(4))
		want := tilings(t, problem{r, tiles})
		some += min(want, 1)
		for range 4 {
			r = turnedFloor(r)
			for _, next := range [][]string{r, mirroredFloor(r)} {
				if got := tilings(t, problem{next, tiles}); got != want {
					t.Errorf("Tilings(%q, %v) = %d, of the floor turned otherwise %d", next, tiles, got, want)
				}
			}
		}
	}
	if some < 300 {
		t.Errorf("only %d floors have tilings", some)
	}
}
