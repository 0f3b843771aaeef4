package sample_test

// What the other tests share: regions to test with, and slow ways to find the same results.

import (
	"cmp"
	"math/rand"
	"slices"
	"strings"
	"testing"

	"encaustic/api"
	"encaustic/domino"
	"encaustic/height"
	"encaustic/sample"
)

// across and down make dominoes, up and fall moves.
func across(x, y int) api.Domino { return api.Domino{X: x, Y: y} }
func down(x, y int) api.Domino   { return api.Domino{X: x, Y: y, Down: true} }
func up(x, y int) api.Nudge      { return api.Nudge{X: x, Y: y, Up: true} }
func fall(x, y int) api.Nudge    { return api.Nudge{X: x, Y: y} }

// rectangle is the region of w by h cells.
func rectangle(w, h int) []string {
	return slices.Repeat([]string{strings.Repeat("#", w)}, h)
}

// diamond is the Aztec diamond in eight rows; it has 2^10 tilings.
func diamond() []string {
	return []string{"...##...", "..####..", ".######.", "########", "########", ".######.", "..####..", "...##..."}
}

// has tells whether x, y is a cell of the region; it may be anywhere.
func has(r []string, x, y int) bool {
	return y >= 0 && y < len(r) && x >= 0 && x < len(r[0]) && r[y][x] == '#'
}

// grid lists the places from x, y to w, h in reading order.
func grid(x, y, w, h int) []api.Cell {
	var places []api.Cell
	for j := y; j <= h; j++ {
		for i := x; i <= w; i++ {
			places = append(places, api.Cell{X: i, Y: j})
		}
	}
	return places
}

// everyRegion is every region of w by h.
func everyRegion(w, h int) [][]string {
	var all [][]string
	for number := range 1 << (w * h) {
		r := make([]string, h)
		for _, c := range grid(0, 0, w-1, h-1) {
			r[c.Y] += string("#."[number>>(c.Y*w+c.X)&1])
		}
		all = append(all, r)
	}
	return all
}

// isPlain asks layer 3.
func isPlain(r []string) bool {
	_, e := height.Rank(r)
	return e == api.OK || e == api.ErrPlan
}

// dominoes lists all dominoes of a region, those that are Down first.
func dominoes(r []string) []api.Domino {
	var upright, flat []api.Domino
	for _, c := range grid(0, 0, len(r[0])-1, len(r)-1) {
		if has(r, c.X, c.Y) && has(r, c.X, c.Y+1) {
			upright = append(upright, down(c.X, c.Y))
		}
		if has(r, c.X, c.Y) && has(r, c.X+1, c.Y) {
			flat = append(flat, across(c.X, c.Y))
		}
	}
	return append(upright, flat...)
}

// second is the second cell of a domino.
func second(d api.Domino) api.Cell {
	if d.Down {
		return api.Cell{X: d.X, Y: d.Y + 1}
	}
	return api.Cell{X: d.X + 1, Y: d.Y}
}

// inReadingOrder sorts dominoes by their first cells.
func inReadingOrder(t []api.Domino) []api.Domino {
	t = slices.Clone(t)
	slices.SortFunc(t, func(a, b api.Domino) int { return cmp.Or(a.Y-b.Y, a.X-b.X) })
	return t
}

// tilings lists all tilings, by covering the last cell that is not covered yet with any domino that fits; their order
// has nothing to do with the order of the document.
func tilings(r []string) [][]api.Domino {
	var all [][]api.Domino
	var laid []api.Domino
	every, covered := dominoes(r), map[api.Cell]bool{}
	cells := slices.DeleteFunc(grid(0, 0, len(r[0])-1, len(r)-1), func(c api.Cell) bool { return !has(r, c.X, c.Y) })
	var lay func(i int)
	lay = func(i int) {
		for i >= 0 && covered[cells[i]] {
			i--
		}
		if i < 0 {
			all = append(all, inReadingOrder(laid))
			return
		}
		for _, d := range every {
			one, other := api.Cell{X: d.X, Y: d.Y}, second(d)
			if covered[one] || covered[other] || one != cells[i] && other != cells[i] {
				continue
			}
			laid, covered[one], covered[other] = append(laid, d), true, true
			lay(i - 1)
			laid, covered[one], covered[other] = laid[:len(laid)-1], false, false
		}
	}
	lay(len(cells) - 1)
	return all
}

// coverOf tells which domino covers each cell.
func coverOf(t []api.Domino) map[api.Cell]api.Domino {
	cover := map[api.Cell]api.Domino{}
	for _, d := range t {
		cover[api.Cell{X: d.X, Y: d.Y}] = d
		cover[second(d)] = d
	}
	return cover
}

// isBefore reads the order of the document: at the first cell that s and t cover in different ways, s has a domino that
// is not Down and begins there.
func isBefore(s, t []api.Domino) bool {
	a, b := coverOf(s), coverOf(t)
	for _, c := range grid(0, 0, api.MaxSide, api.MaxSide) {
		if a[c] != b[c] {
			return a[c] == across(c.X, c.Y)
		}
	}
	return false
}

// squareAt returns the tiling with the square at x, y turned, and false if there is none.
func squareAt(t []api.Domino, x, y int) ([]api.Domino, bool) {
	flat, upright := []api.Domino{across(x, y), across(x, y+1)}, []api.Domino{down(x, y), down(x+1, y)}
	for _, turn := range [][2][]api.Domino{{flat, upright}, {upright, flat}} {
		if slices.Contains(t, turn[0][0]) && slices.Contains(t, turn[0][1]) {
			rest := slices.DeleteFunc(slices.Clone(t), func(d api.Domino) bool { return slices.Contains(turn[0], d) })
			return inReadingOrder(append(rest, turn[1]...)), true
		}
	}
	return nil, false
}

// heightAt asks layer 3 for the height of a point.
func heightAt(t *testing.T, r []string, tiling []api.Domino, x, y int) int {
	t.Helper()
	h, e := height.Of(r, tiling)
	if e != api.OK {
		t.Fatalf("%q, %v: error %d", r, tiling, e)
	}
	return h.Values[y*(h.W+1)+x]
}

// slowNudge turns the square around a point, looks at what has become of its height, and takes it or not.
func slowNudge(t *testing.T, r []string, tiling []api.Domino, m api.Nudge) []api.Domino {
	t.Helper()
	turned, ok := squareAt(tiling, m.X-1, m.Y-1)
	if !ok || (heightAt(t, r, turned, m.X, m.Y) > heightAt(t, r, tiling, m.X, m.Y)) != m.Up {
		return tiling
	}
	return turned
}

func slowNudges(t *testing.T, r []string, tiling []api.Domino, moves []api.Nudge) []api.Domino {
	t.Helper()
	for _, m := range moves {
		tiling = slowNudge(t, r, tiling, m)
	}
	return tiling
}

// extremes asks layer 3 for the least and the greatest tiling.
func extremes(t *testing.T, r []string) (low, high []api.Domino) {
	t.Helper()
	low, e := height.Least(r)
	if e != api.OK {
		t.Fatalf("%q: error %d", r, e)
	}
	high, e = height.Greatest(r)
	if e != api.OK {
		t.Fatalf("%q: error %d", r, e)
	}
	return low, high
}

// slowMet compares both tilings after each move.
func slowMet(t *testing.T, r []string, moves []api.Nudge) ([]api.Domino, int, api.Errno) {
	t.Helper()
	low, high := extremes(t, r)
	after := -1
	if slices.Equal(low, high) {
		after = 0
	}
	for i, m := range moves {
		low, high = slowNudge(t, r, low, m), slowNudge(t, r, high, m)
		if slices.Equal(low, high) && after < 0 {
			after = i + 1
		}
	}
	if !slices.Equal(low, high) {
		return nil, 0, api.ErrBound
	}
	return low, after, api.OK
}

// slowPast tries 1, 2, 4 and so on, and at last all moves.
func slowPast(t *testing.T, r []string, moves []api.Nudge) ([]api.Domino, int, api.Errno) {
	t.Helper()
	for k := 1; ; k *= 2 {
		k = min(k, len(moves))
		end, _, e := slowMet(t, r, moves[len(moves)-k:])
		if e == api.OK {
			return end, k, e
		}
		if k == len(moves) {
			return nil, 0, api.ErrBound
		}
	}
}

// randomMoves are moves at any points of a region, its rim and a little beyond.
func randomMoves(random *rand.Rand, r []string, n int) []api.Nudge {
	var moves []api.Nudge
	for range n {
		x, y := random.Intn(len(r[0])+3)-1, random.Intn(len(r)+3)-1
		moves = append(moves, api.Nudge{X: x, Y: y, Up: random.Intn(2) == 0})
	}
	return moves
}

// innerMoves are moves at Points.
func innerMoves(t *testing.T, random *rand.Rand, r []string, n int) []api.Nudge {
	t.Helper()
	points, e := sample.Points(r)
	if e != api.OK {
		t.Fatalf("%q: error %d", r, e)
	}
	var moves []api.Nudge
	for range min(n, n*len(points)) {
		p := points[random.Intn(len(points))]
		moves = append(moves, api.Nudge{X: p.X, Y: p.Y, Up: random.Intn(2) == 0})
	}
	return moves
}

// smallPlain are plain regions with tilings, but not many: all of some small measures, and others.
func smallPlain() [][]string {
	var all [][]string
	for _, size := range [][2]int{{1, 2}, {2, 1}, {2, 2}, {2, 3}, {3, 2}, {3, 3}, {2, 4}, {4, 2}, {3, 4}} {
		for _, r := range everyRegion(size[0], size[1]) {
			if isPlain(r) && len(tilings(r)) > 0 {
				all = append(all, r)
			}
		}
	}
	return append(all, rectangle(4, 3), rectangle(4, 4), rectangle(2, 8), rectangle(8, 2), rectangle(5, 4),
		[]string{".##.", "####", "####", ".##."}, []string{"..##", "####", "####", "##.."},
		[]string{"####", "####", "###.", "#..."}, []string{".##.....", "####....", "########", "########"})
}

// severalTilings are those of smallPlain with more than one tiling.
func severalTilings() [][]string {
	return slices.DeleteFunc(smallPlain(), func(r []string) bool { return len(tilings(r)) < 2 })
}

// largePlain are plain regions with tilings up to the limits.
func largePlain() [][]string {
	return [][]string{rectangle(8, 8), rectangle(8, 7), rectangle(7, 8), rectangle(6, 8), rectangle(8, 1), rectangle(1, 8), diamond(),
		{"########", ".......#", "########", "#.......", "########", ".......#", "########", "#......."},
		{"##.##.##", "##.##.##", "########", "########", "########", "########", "##.##.##", "##.##.##"},
		{"...#####", "..######", ".#######", "########", "#######.", "######..", "#####...", "####...."}}
}

// notPlain are regions that are not plain: without cells, in parts, with holes, or touching themselves at a corner.
func notPlain() [][]string {
	return [][]string{
		{"."},
		{"..", ".."},
		rectangleOf(".", 8, 8),
		{"#.#"},
		{"##..##"},
		{"##", "..", "##"},
		{"###", "#.#", "###"},
		{"####", "#..#", "#..#", "####"},
		{"#.", ".#"},
		{".#", "#."},
		{"##.", "###", "#.#", "##."},
		{"##.", "#.#", "###"},
		{".###", "##.#", "#.##", "###."},
		{"##..", "##..", "..##", "..##"},
		{"####.", "#..#.", "#.##.", "#.#.#", "#####"},
		{"####", "####", "....", "####", "####"},
		{"######", "######", "##..##", "##..##", "######", "######"},
	}
}

func rectangleOf(cell string, w, h int) []string {
	return slices.Repeat([]string{strings.Repeat(cell, w)}, h)
}

// notRegions are arguments that are no regions.
func notRegions() [][]string {
	return [][]string{
		nil,
		{},
		{""},
		{"##", "#"},
		{"#", "##"},
		{"##", ""},
		{"#x"},
		{"##", "# "},
		{"\u00e9"},
		rectangle(9, 2),
		rectangle(2, 9),
		{strings.Repeat("#", 100000)},
		slices.Repeat([]string{"##"}, 100000),
	}
}

// noTilings are regions without tilings, plain ones and others.
func noTilings() (plain, others [][]string) {
	plain = [][]string{{"#"}, {"###"}, rectangle(3, 3), rectangle(7, 7), {".##", "##.", "#.."}, {"###", ".#.", ".#.", "###"}, {".#..", "####", "..##", ".###"}}
	others = [][]string{{"#.#"}, {"#.", ".#"}, {"##", "..", "#."}, {"#####", "#.#.#", "#####"}}
	return plain, others
}

// someTilings are tilings of a region that may have very many: from one on random flips lead to the next one.
func someTilings(t *testing.T, r []string, n int) [][]api.Domino {
	t.Helper()
	at, e := domino.Tile(r)
	if e != api.OK {
		t.Fatalf("%q: error %d", r, e)
	}
	list := [][]api.Domino{at}
	random := rand.New(rand.NewSource(3))
	for len(list) < n {
		for range 500 {
			if next, ok := squareAt(at, random.Intn(len(r[0])), random.Intn(len(r))); ok {
				at = next
			}
		}
		list = append(list, at)
	}
	return list
}

// newRandom begins the same series each time.
func newRandom() *rand.Rand { return rand.New(rand.NewSource(8)) }
