package domino_test

// P2.1 (Tile, Is) and P2.6 (Used).

import (
	"math/rand"
	"slices"
	"testing"

	"encaustic/api"
	"encaustic/domino"
)

// across and down make dominoes.
func across(x, y int) api.Domino { return api.Domino{X: x, Y: y} }
func down(x, y int) api.Domino   { return api.Domino{X: x, Y: y, Down: true} }

func TestTileExamples(t *testing.T) {
	for _, c := range []struct {
		r    []string
		want []api.Domino
	}{
		{[]string{"##", "##"}, []api.Domino{across(0, 0), across(0, 1)}},
		{[]string{"##"}, []api.Domino{across(0, 0)}},
		{[]string{"#", "#"}, []api.Domino{down(0, 0)}},
		{[]string{"###", "###"}, []api.Domino{across(0, 0), down(2, 0), across(0, 1)}},
		{[]string{"##.", "###", ".##", ".#."}, []api.Domino{across(0, 0), across(0, 1), down(2, 1), down(1, 2)}},
		{[]string{"###", "#.#", "###"}, []api.Domino{across(0, 0), down(2, 0), down(0, 1), across(1, 2)}},
		{[]string{"......##"}, []api.Domino{across(6, 0)}},
		{[]string{".......#", ".......#"}, []api.Domino{down(7, 0)}},
		{blank(8, 8), nil},
		{[]string{"."}, nil},
	} {
		got, e := domino.Tile(c.r)
		if !slices.Equal(got, c.want) || e != api.OK {
			t.Errorf("Tile(%q) = %v, %d, want %v", c.r, got, e, c.want)
		}
	}
}

func TestTileRefuses(t *testing.T) {
	for _, r := range [][]string{
		{"#"},
		{"###"},
		{"#.", ".#"},
		{"#.#"},
		{"#.#", "###", "#.#"},
		{".......#", "#......."},
		{".......#", "........", ".......#"},
		without(rectangle(8, 8), api.Cell{X: 0, Y: 0}, api.Cell{X: 7, Y: 7}),
		rectangle(7, 7),
	} {
		if got, e := domino.Tile(r); len(got) != 0 || e != api.ErrPlan {
			t.Errorf("Tile(%q) = %v, %d, want ErrPlan", r, got, e)
		}
	}
}

// TestTileIsFirst: the list of all tilings begins with the one that Tile is to return.
func TestTileIsFirst(t *testing.T) {
	for _, r := range smallRegions() {
		all := tilings(r)
		got, e := domino.Tile(r)
		if len(all) == 0 && (len(got) != 0 || e != api.ErrPlan) {
			t.Errorf("Tile(%q) = %v, %d, want ErrPlan", r, got, e)
		}
		if len(all) > 0 && (!slices.Equal(got, all[0]) || e != api.OK) {
			t.Errorf("Tile(%q) = %v, %d, want %v", r, got, e, all[0])
		}
	}
}

// TestTilePrefersAcross: with large regions, a tiling that were earlier would have the same dominoes up to one that is
// Down, and there another one. So what is left there must have no tiling.
func TestTilePrefersAcross(t *testing.T) {
	for _, r := range largeRegions() {
		tiling, e := domino.Tile(r)
		if e != api.OK {
			continue
		}
		if !is(t, r, tiling) {
			t.Errorf("Tile(%q) = %v is no tiling", r, tiling)
		}
		rest := r
		for _, d := range tiling {
			if d.Down && has(rest, d.X+1, d.Y) {
				a, b := ends(across(d.X, d.Y))
				if count(t, without(rest, a, b)) > 0 {
					t.Errorf("Tile(%q) = %v: %v need not be Down", r, tiling, d)
				}
			}
			a, b := ends(d)
			rest = without(rest, a, b)
		}
	}
}

func TestIsExamples(t *testing.T) {
	two := []string{"##", "##"}
	row := []string{"######.."}
	for _, c := range []struct {
		r    []string
		list []api.Domino
		want bool
	}{
		{two, []api.Domino{across(0, 0), across(0, 1)}, true},
		{two, []api.Domino{down(0, 0), down(1, 0)}, true},
		{two, []api.Domino{across(0, 1), across(0, 0)}, false},
		{two, []api.Domino{down(1, 0), down(0, 0)}, false},
		{two, []api.Domino{across(0, 0)}, false},
		{two, []api.Domino{across(0, 1)}, false},
		{two, nil, false},
		{two, []api.Domino{across(0, 0), across(0, 1), across(0, 1)}, false},
		{two, []api.Domino{across(0, 0), across(0, 0), across(0, 1)}, false},
		{two, []api.Domino{across(0, 0), across(0, 1), across(0, 2)}, false},
		{two, []api.Domino{across(0, 0), down(1, 0), across(0, 1)}, false},
		{two, []api.Domino{across(0, 0), down(0, 1), down(1, 1)}, false},
		{two, []api.Domino{across(0, 0), across(1, 1)}, false},
		{two, []api.Domino{across(-1, 0), across(0, 1)}, false},
		{row, []api.Domino{across(0, 0), across(2, 0), across(4, 0)}, true},
		{row, []api.Domino{across(0, 0), across(2, 0), across(4, 0), across(6, 0)}, false},
		{[]string{"#"}, []api.Domino{across(0, 0)}, false},
		{[]string{"#"}, []api.Domino{down(0, 0)}, false},
		{[]string{".......#", "#......."}, []api.Domino{across(7, 0)}, false},
		{[]string{".......#", ".......#"}, []api.Domino{down(7, 0)}, true},
		{append(blank(8, 7), "########"), []api.Domino{across(0, 7), across(2, 7), across(4, 7), across(6, 7)}, true},
		{append(blank(8, 7), ".......#"), []api.Domino{down(7, 7)}, false},
		{append(blank(8, 7), ".......#"), []api.Domino{across(7, 7)}, false},
		{[]string{"#.", ".#"}, []api.Domino{across(0, 0), across(0, 1)}, false},
		{blank(3, 3), nil, true},
		{blank(3, 3), []api.Domino{}, true},
		{blank(3, 3), []api.Domino{across(0, 0)}, false},
		{blank(3, 3), []api.Domino{across(8, 8)}, false},
		{blank(3, 3), []api.Domino{across(-1, -1)}, false},
		{two, []api.Domino{across(greatest, greatest), across(0, 1)}, false},
		{two, []api.Domino{across(0, 0), across(least, 1)}, false},
		{two, []api.Domino{across(0, 0), across(0, least)}, false},
		{two, []api.Domino{across(1<<32, 0), across(0, 1)}, false},
		{two, []api.Domino{across(8, -1), across(0, 1)}, false},
		{two, []api.Domino{across(0, 0), across(8, 0)}, false},
	} {
		if got := is(t, c.r, c.list); got != c.want {
			t.Errorf("Is(%q, %v) = %v", c.r, c.list, got)
		}
	}
}

// TestIsTakesJustTheTilings spoils tilings in all ways.
func TestIsTakesJustTheTilings(t *testing.T) {
	r := rand.New(rand.NewSource(3))
	for _, region := range smallRegions() {
		all := tilings(region)
		for _, tiling := range all {
			if !is(t, region, tiling) {
				t.Errorf("Is(%q, %v) is false", region, tiling)
			}
		}
		if len(all) == 0 {
			continue
		}
		tiling := slices.Clone(all[r.Intn(len(all))])
		for range 5 {
			spoiled := spoil(r, tiling)
			want := slices.ContainsFunc(all, func(one []api.Domino) bool { return slices.Equal(one, spoiled) })
			if is(t, region, spoiled) != want {
				t.Errorf("Is(%q, %v) is not %v", region, spoiled, want)
			}
		}
	}
}

// spoil changes a list of dominoes at a random place.
func spoil(r *rand.Rand, tiling []api.Domino) []api.Domino {
	list := slices.Clone(tiling)
	i := r.Intn(len(list) + 1)
	if i == len(list) {
		return append(list, api.Domino{X: r.Intn(8), Y: r.Intn(8), Down: r.Intn(2) == 0})
	}
	switch r.Intn(5) {
	case 0:
		list[i].Down = !list[i].Down
	case 1:
		list[i].X += r.Intn(5) - 2
	case 2:
		list[i].Y += r.Intn(5) - 2
	case 3:
		list = slices.Delete(list, i, i+1)
	default:
		list[0], list[i] = list[i], list[0]
	}
	return list
}

func TestUsedExamples(t *testing.T) {
	for _, c := range []struct{ r, across, down []string }{
		{[]string{"###", "###"}, []string{"##.", "##."}, []string{"###", "..."}},
		{[]string{"##", "##"}, []string{"#.", "#."}, []string{"##", ".."}},
		{[]string{"###", "###", "##."}, []string{"##.", "##.", "#.."}, []string{"###", "##.", "..."}},
		{[]string{"###", "#.#", "###"}, []string{"##.", "...", "##."}, []string{"#.#", "#.#", "..."}},
		{[]string{"####"}, []string{"#.#."}, []string{"...."}},
		{[]string{"."}, []string{"."}, []string{"."}},
		{blank(3, 2), blank(3, 2), blank(3, 2)},
	} {
		got, e := domino.Used(c.r)
		if e != api.OK || len(got) != 2 || !slices.Equal(got[0], c.across) || !slices.Equal(got[1], c.down) {
			t.Errorf("Used(%q) = %q, %d, want %q, %q", c.r, got, e, c.across, c.down)
		}
	}
}

// TestUsedIsWhatTilingsUse draws the dominoes of all tilings.
func TestUsedIsWhatTilingsUse(t *testing.T) {
	for _, r := range smallRegions() {
		all := tilings(r)
		got, e := domino.Used(r)
		if len(all) == 0 {
			if len(got) != 0 || e != api.ErrPlan {
				t.Errorf("Used(%q) = %q, %d, want ErrPlan", r, got, e)
			}
			continue
		}
		want := [2][]string{blank(len(r[0]), len(r)), blank(len(r[0]), len(r))}
		for _, tiling := range all {
			for _, d := range tiling {
				i := 0
				if d.Down {
					i = 1
				}
				want[i] = changed(want[i], '#', api.Cell{X: d.X, Y: d.Y})
			}
		}
		if e != api.OK || len(got) != 2 || !slices.Equal(got[0], want[0]) || !slices.Equal(got[1], want[1]) {
			t.Errorf("Used(%q) = %q, %d, want %q", r, got, e, want)
		}
	}
}

// TestUsedOfLargeRegions counts the tilings of the rest for each domino.
func TestUsedOfLargeRegions(t *testing.T) {
	for _, r := range largeRegions()[:60] {
		got, e := domino.Used(r)
		if count(t, r) == 0 {
			if len(got) != 0 || e != api.ErrPlan {
				t.Errorf("Used(%q) = %q, %d, want ErrPlan", r, got, e)
			}
			continue
		}
		if len(got) != 2 || e != api.OK {
			t.Fatalf("Used(%q) = %q, %d", r, got, e)
		}
		for _, c := range cellsOf(r) {
			for i, d := range []api.Domino{across(c.X, c.Y), down(c.X, c.Y)} {
				a, b := ends(d)
				want := has(r, b.X, b.Y) && count(t, without(r, a, b)) > 0
				if has(got[i], c.X, c.Y) != want {
					t.Errorf("Used(%q) = %q: wrong at %v", r, got, d)
				}
			}
		}
	}
}
