package height_test

// What the other tests share: regions to test with, and slow ways to find the same results.

import (
	"cmp"
	"fmt"
	"maps"
	"math/rand"
	"slices"
	"strings"
	"testing"

	"encaustic/api"
	"encaustic/domino"
)

// across and down make dominoes.
func across(x, y int) api.Domino { return api.Domino{X: x, Y: y} }
func down(x, y int) api.Domino   { return api.Domino{X: x, Y: y, Down: true} }

// rectangle is the region of w by h cells.
func rectangle(w, h int) []string {
	return slices.Repeat([]string{strings.Repeat("#", w)}, h)
}

// diamond is the Aztec diamond in eight rows; it has 2^10 tilings.
func diamond() []string {
	return []string{"...##...", "..####..", ".######.", "########", "########", ".######.", "..####..", "...##..."}
}

// has tells whether c is a cell of the region; it may be anywhere.
func has(r []string, c api.Cell) bool {
	return c.Y >= 0 && c.Y < len(r) && c.X >= 0 && c.X < len(r[0]) && r[c.Y][c.X] == '#'
}

// grid lists the places from x, y to w, h in reading order.
func grid(x, y, w, h int) []api.Cell {
	var places []api.Cell
	for j := y; j <= h; j++ {
		for i := x; i <= w; i++ {
			places = append(places, api.Cell{X: i, Y: j})
		}
	}
	return places
}

func cellsOf(r []string) []api.Cell {
	return slices.DeleteFunc(grid(0, 0, len(r[0])-1, len(r)-1), func(c api.Cell) bool { return !has(r, c) })
}

// regionOf draws a region of some cells.
func regionOf(w, h int, cells map[api.Cell]bool) []string {
	r := make([]string, h)
	for _, c := range grid(0, 0, w-1, h-1) {
		if cells[c] {
			r[c.Y] += "#"
		} else {
			r[c.Y] += "."
		}
	}
	return r
}

// everyRegion is every region of w by h.
func everyRegion(w, h int) [][]string {
	var all [][]string
	places := grid(0, 0, w-1, h-1)
	for number := range 1 << len(places) {
		cells := map[api.Cell]bool{}
		for i, c := range places {
			cells[c] = number>>i&1 == 1
		}
		all = append(all, regionOf(w, h, cells))
	}
	return all
}

// flood counts the places that steps lead to from c, with corners too or without, and takes them away.
func flood(places map[api.Cell]bool, c api.Cell, corners bool) int {
	if !places[c] {
		return 0
	}
	delete(places, c)
	n := 1
	for _, next := range grid(c.X-1, c.Y-1, c.X+1, c.Y+1) {
		if corners || next.X == c.X || next.Y == c.Y {
			n += flood(places, next, corners)
		}
	}
	return n
}

// isPlain floods the cells, and then all that is outside.
func isPlain(r []string) bool {
	inside, outside := map[api.Cell]bool{}, map[api.Cell]bool{}
	for _, c := range grid(-1, -1, len(r[0]), len(r)) {
		if has(r, c) {
			inside[c] = true
		} else {
			outside[c] = true
		}
	}
	cells := cellsOf(r)
	if len(cells) == 0 || flood(inside, cells[0], false) < len(cells) {
		return false
	}
	flood(outside, api.Cell{X: -1, Y: -1}, true)
	if len(outside) > 0 {
		return false
	}
	for y := range len(r) - 1 {
		for x := range len(r[0]) - 1 {
			if four := r[y][x:x+2] + r[y+1][x:x+2]; four == "#..#" || four == ".##." {
				return false
			}
		}
	}
	return true
}

// second is the second cell of a domino.
func second(d api.Domino) api.Cell {
	if d.Down {
		return api.Cell{X: d.X, Y: d.Y + 1}
	}
	return api.Cell{X: d.X + 1, Y: d.Y}
}

// tilings lists all tilings.
func tilings(r []string) [][]api.Domino {
	var all [][]api.Domino
	var laid []api.Domino
	cells, covered := cellsOf(r), map[api.Cell]bool{}
	var lay func(i int)
	lay = func(i int) {
		for i < len(cells) && covered[cells[i]] {
			i++
		}
		if i == len(cells) {
			all = append(all, slices.Clone(laid))
			return
		}
		for _, d := range []api.Domino{across(cells[i].X, cells[i].Y), down(cells[i].X, cells[i].Y)} {
			other := second(d)
			if !has(r, other) || covered[other] {
				continue
			}
			laid, covered[other] = append(laid, d), true
			lay(i + 1)
			laid, covered[other] = laid[:len(laid)-1], false
		}
	}
	lay(0)
	return all
}

// grown is a plain region of w by h that is made of up to most dominoes.
func grown(random *rand.Rand, w, h, most int) []string {
	cells, r := map[api.Cell]bool{}, []string(nil)
	for range most * 20 {
		d := api.Domino{X: random.Intn(w), Y: random.Intn(h), Down: random.Intn(2) == 0}
		more, first, other := maps.Clone(cells), api.Cell{X: d.X, Y: d.Y}, second(d)
		more[first], more[other] = true, true
		if cells[first] || cells[other] || other.X >= w || other.Y >= h || !isPlain(regionOf(w, h, more)) {
			continue
		}
		cells, r = more, regionOf(w, h, more)
		if most--; most == 0 {
			break
		}
	}
	return r
}

// smallRegions are plain regions with tilings, but not many: all of some small measures, and others.
func smallRegions() [][]string {
	var all [][]string
	for _, size := range [][2]int{{1, 2}, {2, 1}, {2, 2}, {2, 3}, {3, 2}, {3, 3}, {2, 4}, {4, 2}, {3, 4}} {
		for _, r := range everyRegion(size[0], size[1]) {
			if isPlain(r) && len(tilings(r)) > 0 {
				all = append(all, r)
			}
		}
	}
	all = append(all, rectangle(4, 3), rectangle(4, 4), rectangle(2, 8), rectangle(8, 2), rectangle(5, 4))
	random := rand.New(rand.NewSource(1))
	for len(all) < 700 {
		r := grown(random, 2+random.Intn(5), 2+random.Intn(5), 3+random.Intn(10))
		if r != nil && len(tilings(r)) <= 100 {
			all = append(all, r)
		}
	}
	return all
}

// largeRegions are plain regions with tilings up to the limits.
func largeRegions() [][]string {
	all := [][]string{rectangle(8, 8), rectangle(8, 7), rectangle(7, 8), rectangle(6, 8), rectangle(8, 1), rectangle(1, 8), diamond(),
		{"########", ".......#", "########", "#.......", "########", ".......#", "########", "#......."},
		{"##.##.##", "##.##.##", "########", "########", "########", "########", "##.##.##", "##.##.##"}}
	random := rand.New(rand.NewSource(2))
	for len(all) < 40 {
		if r := grown(random, 5+random.Intn(4), 5+random.Intn(4), 10+random.Intn(23)); r != nil {
			all = append(all, r)
		}
	}
	return all
}

// someTilings are tilings of a region that may have very many: from one on random flips lead to the next one.
func someTilings(t *testing.T, r []string, n int) [][]api.Domino {
	t.Helper()
	at, e := domino.Tile(r)
	if e != api.OK {
		t.Fatalf("%q: error %d", r, e)
	}
	list := [][]api.Domino{at}
	random := rand.New(rand.NewSource(3))
	for len(list) < n {
		for range 60 {
			if cells := squares(at); len(cells) > 0 {
				at = turned(at, cells[random.Intn(len(cells))])
			}
		}
		list = append(list, at)
	}
	return list
}

// squares compares all dominoes with one another.
func squares(tiling []api.Domino) []api.Cell {
	var cells []api.Cell
	for _, d := range tiling {
		other := across(d.X, d.Y+1)
		if d.Down {
			other = down(d.X+1, d.Y)
		}
		if slices.Contains(tiling, other) {
			cells = append(cells, api.Cell{X: d.X, Y: d.Y})
		}
	}
	return cells
}

// turned takes the two dominoes of a square out and puts in the other two.
func turned(tiling []api.Domino, c api.Cell) []api.Domino {
	flat := []api.Domino{across(c.X, c.Y), across(c.X, c.Y+1)}
	upright := []api.Domino{down(c.X, c.Y), down(c.X+1, c.Y)}
	out, in := flat, upright
	if slices.Contains(tiling, upright[0]) {
		out, in = upright, flat
	}
	next := slices.DeleteFunc(slices.Clone(tiling), func(d api.Domino) bool { return slices.Contains(out, d) })
	next = append(next, in...)
	slices.SortFunc(next, func(a, b api.Domino) int { return cmp.Or(a.Y-b.Y, a.X-b.X) })
	return next
}

// side is an edge from a point on: its middle, and the cells on both hands. The middle is twice as far from 0 0.
type side struct{ to, middle, left, right api.Cell }

// sides lists the edges of the region from a point on. Turned to the left, the direction x, y is y, -x.
func sides(r []string, p api.Cell) []side {
	var list []side
	for _, d := range []api.Cell{{X: 1}, {X: -1}, {Y: 1}, {Y: -1}} {
		s := side{to: api.Cell{X: p.X + d.X, Y: p.Y + d.Y}, middle: api.Cell{X: 2*p.X + d.X, Y: 2*p.Y + d.Y}}
		s.left = api.Cell{X: (s.middle.X + d.Y - 1) / 2, Y: (s.middle.Y - d.X - 1) / 2}
		s.right = api.Cell{X: (s.middle.X - d.Y - 1) / 2, Y: (s.middle.Y + d.X - 1) / 2}
		if has(r, s.left) || has(r, s.right) {
			list = append(list, s)
		}
	}
	return list
}

// growth is what the height grows along an edge that is not crossed.
func growth(s side) int {
	if (s.left.X+s.left.Y)&1 == 0 {
		return 1
	}
	return -1
}

// slowHeights goes from the first corner along all edges that no domino has as its middle, each of them both ways.
func slowHeights(t *testing.T, r []string, tiling []api.Domino) map[api.Cell]int {
	t.Helper()
	crossed := map[api.Cell]bool{}
	for _, d := range tiling {
		other := second(d)
		crossed[api.Cell{X: d.X + other.X + 1, Y: d.Y + other.Y + 1}] = true
	}
	heights := map[api.Cell]int{cellsOf(r)[0]: 0}
	for list := cellsOf(r)[:1]; len(list) > 0; list = list[1:] {
		for _, s := range sides(r, list[0]) {
			if crossed[s.middle] {
				continue
			}
			next := heights[list[0]] + growth(s)
			if known, ok := heights[s.to]; !ok {
				heights[s.to] = next
				list = append(list, s.to)
			} else if known != next {
				t.Fatalf("%q, %v: both %d and %d at %v", r, tiling, known, next, s.to)
			}
		}
	}
	return heights
}

// shown writes heights as the document has them.
func shown(r []string, heights map[api.Cell]int) api.Heights {
	h := api.Heights{W: len(r[0]), H: len(r)}
	for _, p := range grid(0, 0, h.W, h.H) {
		level, ok := heights[p]
		h.Values = append(h.Values, level)
		h.Known = append(h.Known, ok)
	}
	return h
}

// apart is the sum of the differences of the heights of two tilings.
func apart(a, b api.Heights) int {
	sum := 0
	for i := range a.Values {
		sum += max(a.Values[i]-b.Values[i], b.Values[i]-a.Values[i])
	}
	return sum
}

// isBelow tells whether all heights of a are at most those of b.
func isBelow(a, b api.Heights) bool {
	for i := range a.Values {
		if a.Values[i] > b.Values[i] {
			return false
		}
	}
	return true
}

// lattice is a region with all its tilings, their heights, and which tiling has a given text.
type lattice struct {
	r       []string
	tilings [][]api.Domino
	heights []api.Heights
	number  map[string]int
}

func latticeOf(t *testing.T, r []string) lattice {
	t.Helper()
	l := lattice{r: r, tilings: tilings(r), number: map[string]int{}}
	for i, tiling := range l.tilings {
		l.heights = append(l.heights, shown(r, slowHeights(t, r, tiling)))
		l.number[fmt.Sprint(tiling)] = i
	}
	return l
}

// find returns the number of a tiling, and fails the test if it is none.
func (l lattice) find(t *testing.T, tiling []api.Domino, e api.Errno) int {
	t.Helper()
	i, ok := l.number[fmt.Sprint(tiling)]
	if e != api.OK || !ok {
		t.Fatalf("%q: %v, error %d", l.r, tiling, e)
	}
	return i
}

// extreme returns the number of the tiling that is below all, or above all.
func (l lattice) extreme(t *testing.T, before func(a, b api.Heights) bool) int {
	t.Helper()
	for i, h := range l.heights {
		if !slices.ContainsFunc(l.heights, func(other api.Heights) bool { return !before(h, other) }) {
			return i
		}
	}
	t.Fatalf("%q: no extreme tiling", l.r)
	return 0
}

// flipsFrom returns how many flips lead from a tiling to each one, found by going through all flips of all tilings.
func (l lattice) flipsFrom(t *testing.T, start int) []int {
	t.Helper()
	far := make([]int, len(l.tilings))
	for i := range far {
		far[i] = -1
	}
	far[start] = 0
	for list := []int{start}; len(list) > 0; list = list[1:] {
		at := l.tilings[list[0]]
		for _, c := range squares(at) {
			if next := l.find(t, turned(at, c), api.OK); far[next] < 0 {
				far[next] = far[list[0]] + 1
				list = append(list, next)
			}
		}
	}
	return far
}
