package domino_test

// What the other tests share: regions to test with, and slow ways to find the same results.

import (
	"math/rand"
	"slices"
	"strings"
	"testing"

	"encaustic/api"
	"encaustic/domino"
)

const (
	least    = -1 << 63
	greatest = 1<<63 - 1
)

// rectangle is the region of w by h cells.
func rectangle(w, h int) []string {
	return slices.Repeat([]string{strings.Repeat("#", w)}, h)
}

// blank is the region of w by h places without cells.
func blank(w, h int) []string {
	return slices.Repeat([]string{strings.Repeat(".", w)}, h)
}

// diamond is the Aztec diamond in eight rows; it has 2^10 tilings.
func diamond() []string {
	return []string{"...##...", "..####..", ".######.", "########", "########", ".######.", "..####..", "...##..."}
}

// has tells whether x, y is a cell of the region; it may be anywhere.
func has(r []string, x, y int) bool {
	return y >= 0 && y < len(r) && x >= 0 && x < len(r[0]) && r[y][x] == '#'
}

// cellsOf lists the cells of the region in reading order.
func cellsOf(r []string) []api.Cell {
	var cells []api.Cell
	for y := range r {
		for x := range r[0] {
			if has(r, x, y) {
				cells = append(cells, api.Cell{X: x, Y: y})
			}
		}
	}
	return cells
}

// changed returns the region with the places of a list made what they are to be.
func changed(r []string, to byte, cells ...api.Cell) []string {
	next := make([]string, len(r))
	for y, row := range r {
		line := []byte(row)
		for _, c := range cells {
			if c.Y == y {
				line[c.X] = to
			}
		}
		next[y] = string(line)
	}
	return next
}

func without(r []string, cells ...api.Cell) []string {
	return changed(r, '.', cells...)
}

// ends are the two cells of a domino.
func ends(d api.Domino) (api.Cell, api.Cell) {
	if d.Down {
		return api.Cell{X: d.X, Y: d.Y}, api.Cell{X: d.X, Y: d.Y + 1}
	}
	return api.Cell{X: d.X, Y: d.Y}, api.Cell{X: d.X + 1, Y: d.Y}
}

// tilings lists all tilings; those that are earlier prefer dominoes that are not Down, from the first cell on.
func tilings(r []string) [][]api.Domino {
	cells := cellsOf(r)
	if len(cells) == 0 {
		return [][]api.Domino{{}}
	}
	var all [][]api.Domino
	for _, down := range []bool{false, true} {
		d := api.Domino{X: cells[0].X, Y: cells[0].Y, Down: down}
		a, b := ends(d)
		if !has(r, b.X, b.Y) {
			continue
		}
		for _, rest := range tilings(without(r, a, b)) {
			all = append(all, append([]api.Domino{d}, rest...))
		}
	}
	return all
}

// everyRegion is every region of w by h.
func everyRegion(w, h int) [][]string {
	var all [][]string
	for number := range 1 << (w * h) {
		r := make([]string, h)
		for y := range r {
			for x := range w {
				r[y] += string("#."[number>>(y*w+x)&1])
			}
		}
		all = append(all, r)
	}
	return all
}

// smallRegions are all regions of some small measures, and random ones that are a little larger.
func smallRegions() [][]string {
	var all [][]string
	for _, size := range [][2]int{{1, 1}, {1, 2}, {2, 1}, {1, 5}, {5, 1}, {2, 2}, {2, 3}, {3, 2}, {3, 3}, {2, 5}, {4, 3}} {
		all = append(all, everyRegion(size[0], size[1])...)
	}
	r := rand.New(rand.NewSource(1))
	for range 400 {
		all = append(all, randomRegion(r, 1+r.Intn(6), 1+r.Intn(5)))
	}
	return all
}

// largeRegions are regions up to the limits, too large to list all tilings of some of them.
func largeRegions() [][]string {
	all := [][]string{rectangle(8, 8), rectangle(8, 7), rectangle(7, 8), rectangle(7, 7), rectangle(8, 1), rectangle(1, 8), diamond(), blank(8, 8), blank(1, 8), blank(8, 1)}
	r := rand.New(rand.NewSource(2))
	for range 300 {
		all = append(all, randomRegion(r, 1+r.Intn(8), 1+r.Intn(8)))
	}
	for range 100 {
		all = append(all, randomRegion(r, 8, 8))
	}
	return all
}

// randomRegion is made of random places, or of random dominoes: those have tilings.
func randomRegion(r *rand.Rand, w, h int) []string {
	share, region := r.Intn(10), blank(w, h)
	if r.Intn(2) == 0 {
		for y := range h {
			for x := range w {
				if r.Intn(10) >= share {
					region = changed(region, '#', api.Cell{X: x, Y: y})
				}
			}
		}
		return region
	}
	for range r.Intn(w*h + 1) {
		a, b := ends(api.Domino{X: r.Intn(w), Y: r.Intn(h), Down: r.Intn(2) == 0})
		if b.X < w && b.Y < h && !has(region, a.X, a.Y) && !has(region, b.X, b.Y) {
			region = changed(region, '#', a, b)
		}
	}
	return region
}

func allRegions() [][]string {
	return append(smallRegions(), largeRegions()...)
}

// notRegions are arguments that are no regions.
func notRegions() [][]string {
	return [][]string{
		nil,
		{},
		{""},
		{"", ""},
		{"", "#"},
		{"#", ""},
		{"##", "#"},
		{"#", "##"},
		{"##", "##", "###"},
		{"##", "##", "#"},
		{"#########"},
		{"........."},
		rectangle(1, 9),
		rectangle(9, 1),
		rectangle(9, 9),
		blank(8, 9),
		blank(9, 8),
		append(rectangle(8, 8), ""),
		{strings.Repeat("#", 100000)},
		slices.Repeat([]string{"#"}, 100000),
		{"#x"},
		{"x#"},
		{" "},
		{"#\n"},
		{"\x00"},
		{"\xff"},
		{"\u00e9"},
		{"#", "x"},
		{"##", "#,"},
		{"##", "\"."},
		{"########", "#######$"},
	}
}

// must fails a test if f returns an error for the region.
func must[R any](t *testing.T, r []string, f func([]string) (R, api.Errno)) R {
	t.Helper()
	result, e := f(r)
	if e != api.OK {
		t.Fatalf("%q: error %d", r, e)
	}
	return result
}

func count(t *testing.T, r []string) int {
	t.Helper()
	return must(t, r, domino.Count)
}

func kasteleyn(t *testing.T, r []string) int {
	t.Helper()
	return must(t, r, domino.Kasteleyn)
}

func holes(t *testing.T, r []string) int {
	t.Helper()
	return must(t, r, domino.Holes)
}

func parts(t *testing.T, r []string) [][]string {
	t.Helper()
	return must(t, r, domino.Parts)
}

func is(t *testing.T, r []string, tiling []api.Domino) bool {
	t.Helper()
	return must(t, r, func(r []string) (bool, api.Errno) { return domino.Is(r, tiling) })
}

func refutes(t *testing.T, r []string, cells []api.Cell) bool {
	t.Helper()
	return must(t, r, func(r []string) (bool, api.Errno) { return domino.Refutes(r, cells) })
}
