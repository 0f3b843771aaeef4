package weight_test

// What the other tests share: floors and tiles to test with, and slow ways to find the same results.

import (
	"math/big"
	"math/rand"
	"slices"
	"strings"
	"testing"

	"encaustic/api"
	"encaustic/weight"
)

const (
	least    = -1 << 63
	greatest = 1<<63 - 1
)

// problem is a floor with tiles.
type problem struct {
	r     []string
	tiles []api.Tile
}

// tile makes a tile of pairs X, Y.
func tile(numbers ...int) api.Tile {
	var t api.Tile
	for i := 0; i < len(numbers); i += 2 {
		t = append(t, api.Cell{X: numbers[i], Y: numbers[i+1]})
	}
	return t
}

func rectangle(w, h int) []string {
	return slices.Repeat([]string{strings.Repeat("#", w)}, h)
}

func dominoes() []api.Tile { return []api.Tile{tile(0, 0, 1, 0), tile(0, 0, 0, 1)} }

func corners() []api.Tile {
	return []api.Tile{tile(0, 0, 1, 0, 0, 1), tile(0, 0, 1, 0, 1, 1), tile(0, 0, -1, 1, 0, 1), tile(0, 0, 0, 1, 1, 1)}
}

// pairs can cover any two of the three cells of `##`, `#.`.
func pairs() []api.Tile {
	return []api.Tile{tile(0, 0, 1, 0), tile(0, 0, 0, 1), tile(0, 0, -1, 1)}
}

// tileLists are some tiles of every kind.
func tileLists() [][]api.Tile {
	threeAcross, threeDown := tile(0, 0, 1, 0, 2, 0), tile(0, 0, 0, 1, 0, 2)
	return [][]api.Tile{
		{tile(0, 0)},
		dominoes(),
		dominoes()[:1],
		corners(),
		corners()[2:3],
		pairs(),
		{threeAcross},
		{threeAcross, threeDown},
		{tile(0, 0, 1, 0, 0, 1, 1, 1), threeAcross, threeDown},
		{tile(0, 0, 1, 0, 2, 0, 1, 1), tile(0, 0, 0, 1, 1, 1, 0, 2), tile(0, 0, -1, 1, 0, 1, 1, 1), tile(0, 0, -1, 1, 0, 1, 0, 2)},
		{tile(0, 0, 1, 0, 1, 1, 2, 1), tile(0, 0, 0, 1, 1, 1, 1, 2)},
		{tile(0, 0, -1, 1, 0, 1, 1, 1, 0, 2), tile(0, 0), tile(0, 0, 1, 1)},
		{tile(0, 0, 2, 0), tile(0, 0, 0, 2), tile(0, 0, -2, 1), tile(0, 0, 1, 2), tile(0, 0, -1, 2), tile(0, 0, 2, 1)},
		{tile(0, 0, 1, 1), tile(0, 0, -1, 1)},
		{tile(0, 0, 3, 0), tile(0, 0, -3, 3), tile(0, 0, 0, 3), tile(0, 0, 1, 0, 1, 1)},
		{tile(0, 0, 4, 0), tile(0, 0, 0, 4), tile(0, 0, -4, 4), tile(0, 0, 4, 4)},
	}
}

// everyFloor is every floor of w by h.
func everyFloor(w, h int) [][]string {
	var all [][]string
	for number := 1; number < 1<<(w*h); number++ {
		r := make([]string, h)
		for y := range r {
			for x := range w {
				r[y] += string(".#"[number>>(y*w+x)&1])
			}
		}
		all = append(all, r)
	}
	return all
}

// randomFloor has at least one cell.
func randomFloor(r *rand.Rand, w, h, tenths int) []string {
	cell := r.Intn(w * h)
	floor := make([]string, h)
	for y := range floor {
		for x := range w {
			if y*w+x == cell || r.Intn(10) < tenths {
				floor[y] += "#"
			} else {
				floor[y] += "."
			}
		}
	}
	return floor
}

// randomTile may be any valid tile; mostly its cells are near to one another.
func randomTile(r *rand.Rand) api.Tile {
	return sizedTile(r, 1+r.Intn(api.MaxCells))
}

func sizedTile(r *rand.Rand, size int) api.Tile {
	wide := []int{1, 1, 1, 2, 4}[r.Intn(5)]
	t := tile(0, 0)
	for len(t) < size {
		c := api.Cell{X: r.Intn(2*wide+1) - wide, Y: r.Intn(wide + 2)}
		if c.Y <= 4 && (c.Y > 0 || c.X > 0) && !slices.Contains(t, c) {
			t = append(t, c)
		}
	}
	return inOrder(t)
}

// inOrder returns the same cells in reading order, moved so that the first of them is 0 0.
func inOrder(t api.Tile) api.Tile {
	next := slices.Clone(t)
	slices.SortFunc(next, readingOrder)
	first := next[0]
	for i := range next {
		next[i].X -= first.X
		next[i].Y -= first.Y
	}
	return next
}

func readingOrder(a, b api.Cell) int {
	if a.Y != b.Y {
		return a.Y - b.Y
	}
	return a.X - b.X
}

// randomTiles are all different; mostly they are of different sizes.
func randomTiles(r *rand.Rand, count int) []api.Tile {
	return differentTiles(count, func() api.Tile { return randomTile(r) })
}

// alikeTiles all have as many cells: whole numbers of them leave rests that shares do not leave.
func alikeTiles(r *rand.Rand, count int) []api.Tile {
	size := 2 + r.Intn(api.MaxCells-1)
	return differentTiles(count, func() api.Tile { return sizedTile(r, size) })
}

func differentTiles(count int, next func() api.Tile) []api.Tile {
	var tiles []api.Tile
	for len(tiles) < count {
		t := next()
		if !slices.ContainsFunc(tiles, func(other api.Tile) bool { return slices.Equal(other, t) }) {
			tiles = append(tiles, t)
		}
	}
	return tiles
}

// smallProblems are all floors of some small measures with each of the lists of tiles.
func smallProblems() []problem {
	var all []problem
	for _, size := range [][2]int{{1, 1}, {1, 2}, {2, 1}, {1, 4}, {4, 1}, {2, 2}, {2, 3}, {3, 2}} {
		for _, r := range everyFloor(size[0], size[1]) {
			for _, tiles := range tileLists() {
				all = append(all, problem{r, tiles})
			}
		}
	}
	return all
}

// largeProblems are random ones up to the limits.
func largeProblems(seed int64, count int) []problem {
	random := rand.New(rand.NewSource(seed))
	var all []problem
	for _, tiles := range tileLists() {
		all = append(all, problem{rectangle(4, 4), tiles}, problem{rectangle(3, 3), tiles}, problem{rectangle(3, 4), tiles})
	}
	for i := range count {
		r := randomFloor(random, 1+random.Intn(4), 1+random.Intn(4), 5+random.Intn(6))
		if i%3 == 0 {
			r = randomFloor(random, 4, 4, 7+random.Intn(4))
		}
		tiles := randomTiles(random, 1+random.Intn(api.MaxTiles))
		switch i % 4 {
		case 0:
			tiles = tileLists()[random.Intn(len(tileLists()))]
		case 1:
			tiles = alikeTiles(random, 3+random.Intn(api.MaxTiles-2))
		}
		all = append(all, problem{r, tiles})
	}
	return all
}

// hardProblems are such that several rests of divisions, by 4 to 75, have to be right for a signed tiling (the first six),
// or to refuse one.
func hardProblems() []problem {
	four, low := rectangle(4, 4), []string{"####", "####", ".###", "####"}
	return []problem{
		{rectangle(3, 4), []api.Tile{tile(0, 0, 0, 2, 1, 2), tile(0, 0, -2, 2, 0, 2), tile(0, 0, 2, 0, 1, 1), tile(0, 0, 1, 1, -1, 2), tile(0, 0, 0, 1, 2, 2), tile(0, 0, -1, 1, 2, 2)}},
		{rectangle(3, 4), []api.Tile{tile(0, 0, -2, 2, 0, 2), tile(0, 0, 1, 2, 2, 2), tile(0, 0, -1, 2, 0, 2), tile(0, 0, -1, 1, 1, 1), tile(0, 0, 1, 0, 2, 0)}},
		{low, []api.Tile{tile(0, 0, 1, 0, 2, 2), tile(0, 0, 2, 0, 2, 1), tile(0, 0, -1, 1, -2, 2), tile(0, 0, 1, 1, 0, 2)}},
		{four, []api.Tile{tile(0, 0, 0, 1, 1, 1, -1, 2), tile(0, 0, 1, 0, 0, 2, 1, 2), tile(0, 0, -1, 1, -1, 2, 1, 2), tile(0, 0, 1, 0, 2, 0, 0, 1)}},
		{four, []api.Tile{tile(0, 0, -2, 1, -1, 2, 1, 2), tile(0, 0, 1, 0, 0, 1, 1, 2), tile(0, 0, 0, 1, 1, 1, -1, 2), tile(0, 0, 0, 1, 1, 2, 2, 2), tile(0, 0, -1, 1, 0, 2, 1, 2)}},
		{[]string{"##.#", "####", "####", "####"}, []api.Tile{tile(0, 0, 1, 1, 2, 2), tile(0, 0, 0, 1, -1, 2), tile(0, 0, 0, 2, 1, 2), tile(0, 0, -2, 1, -1, 1)}},
		{four, []api.Tile{tile(0, 0, -1, 2, 0, 2), tile(0, 0, 2, 0, -2, 1), tile(0, 0, 1, 2, 2, 2), tile(0, 0, 0, 1, 2, 1), tile(0, 0, -2, 1, -1, 1), tile(0, 0, -2, 2, 1, 2)}},
		{four, []api.Tile{tile(0, 0, 2, 1, -2, 2), tile(0, 0, 0, 1, 1, 1), tile(0, 0, 2, 1, -1, 2), tile(0, 0, 1, 0, 0, 1), tile(0, 0, -2, 2, -1, 2), tile(0, 0, 1, 1, 1, 2)}},
		{four, []api.Tile{tile(0, 0, -1, 1, -2, 2), tile(0, 0, 1, 1, 2, 2), tile(0, 0, 1, 0, 0, 2), tile(0, 0, 0, 1, 2, 1)}},
		{[]string{"####", "####", ".###", "###."}, []api.Tile{tile(0, 0, 2, 0, 0, 2), tile(0, 0, 2, 1, 1, 2), tile(0, 0, 2, 1, -1, 2), tile(0, 0, -1, 1, 2, 2), tile(0, 0, 1, 0, 1, 1)}},
	}
}

func allProblems() []problem {
	return slices.Concat(smallProblems(), largeProblems(1, 2500), hardProblems())
}

// has tells whether x, y, which may be anywhere, is a cell of the floor.
func has(r []string, x, y int) bool {
	return y >= 0 && y < len(r) && x >= 0 && x < len(r[0]) && r[y][x] == '#'
}

// cellsOf lists the cells of the floor in reading order.
func cellsOf(r []string) []api.Cell {
	var cells []api.Cell
	for y := range r {
		for x := range r[0] {
			if has(r, x, y) {
				cells = append(cells, api.Cell{X: x, Y: y})
			}
		}
	}
	return cells
}

// slowPuts tries all places near the floor.
func slowPuts(p problem) []api.Put {
	var puts []api.Put
	for y := -9; y <= 9; y++ {
		for x := -9; x <= 9; x++ {
			for k, t := range p.tiles {
				outside := func(c api.Cell) bool { return !has(p.r, c.X+x, c.Y+y) }
				if !slices.ContainsFunc(t, outside) {
					puts = append(puts, api.Put{Tile: k, X: x, Y: y})
				}
			}
		}
	}
	return puts
}

// covers lists for each put which cells of the floor, by their numbers, it covers.
func covers(p problem) [][]int {
	var lists [][]int
	cells := cellsOf(p.r)
	for _, put := range slowPuts(p) {
		var list []int
		for _, c := range p.tiles[put.Tile] {
			list = append(list, slices.Index(cells, api.Cell{X: c.X + put.X, Y: c.Y + put.Y}))
		}
		lists = append(lists, list)
	}
	return lists
}

// fills tells whether the sum of the puts with coefficients is the same number at each cell.
func fills(p problem, coefficients []int, number int) bool {
	lists := covers(p)
	if len(coefficients) != len(lists) {
		return false
	}
	sums := make([]big.Int, len(cellsOf(p.r)))
	for j, list := range lists {
		for _, i := range list {
			sums[i].Add(&sums[i], big.NewInt(int64(coefficients[j])))
		}
	}
	for i := range sums {
		if sums[i].Cmp(big.NewInt(int64(number))) != 0 {
			return false
		}
	}
	return true
}

// slowTilings takes or leaves each put.
func slowTilings(p problem) int {
	lists := covers(p)
	used := make([]bool, len(cellsOf(p.r)))
	var from func(j int) int
	from = func(j int) int {
		if j == len(lists) {
			if slices.Contains(used, false) {
				return 0
			}
			return 1
		}
		// Puts come in the order of their first cells: an earlier cell that is free stays free.
		if slices.Contains(used[:lists[j][0]], false) {
			return 0
		}
		count := from(j + 1)
		if slices.ContainsFunc(lists[j], func(i int) bool { return used[i] }) {
			return count
		}
		for _, i := range lists[j] {
			used[i] = true
		}
		count += from(j + 1)
		for _, i := range lists[j] {
			used[i] = false
		}
		return count
	}
	return from(0)
}

// sumOf is the exact sum of the weights of some cells.
func sumOf(w api.Weights, list []int) *big.Rat {
	sum := new(big.Rat)
	for _, i := range list {
		sum.Add(sum, big.NewRat(int64(w.Num[i]), int64(w.Den)))
	}
	return sum
}

// areWeights is what must be true of weights of either kind.
func areWeights(p problem, w api.Weights) bool {
	if len(w.Num) != len(cellsOf(p.r)) || w.Den < 1 || w.Den > 1<<40 {
		return false
	}
	for _, n := range w.Num {
		if n < -1<<40 || n > 1<<40 {
			return false
		}
	}
	return true
}

// refutes adds up weights: of the sums, those of the puts must all be as they should, and that of the floor not.
func refutes(p problem, w api.Weights, should func(*big.Rat) bool) bool {
	if !areWeights(p, w) {
		return false
	}
	for _, list := range covers(p) {
		if !should(sumOf(w, list)) {
			return false
		}
	}
	all := make([]int, len(w.Num))
	for i := range all {
		all[i] = i
	}
	return !should(sumOf(w, all))
}

func slowIsWhole(p problem, w api.Weights) bool {
	return refutes(p, w, (*big.Rat).IsInt)
}

func slowIsAbove(p problem, w api.Weights) bool {
	return refutes(p, w, func(sum *big.Rat) bool { return sum.Sign() <= 0 })
}

// isSum tells whether a list of numbers is a sum of other ones with whole coefficients. It makes the numbers at one place
// after the other 0, but for one list that has the greatest common divisor there.
func isSum(target []int, lists [][]int) bool {
	var rows [][]*big.Int
	for _, list := range append(slices.Clone(lists), target) {
		var row []*big.Int
		for _, n := range list {
			row = append(row, big.NewInt(int64(n)))
		}
		rows = append(rows, row)
	}
	rest, rows := rows[len(rows)-1], rows[:len(rows)-1]
	for place := range rest {
		rows = reduced(rows, place)
		if len(rows) > 0 && rows[0][place].Sign() != 0 {
			subtract(rest, new(big.Int).Div(rest[place], rows[0][place]), rows[0])
			rows = rows[1:]
		}
		if rest[place].Sign() != 0 {
			return false
		}
	}
	return true
}

// reduced returns rows of which only the first one may have another number than 0 at a place.
func reduced(rows [][]*big.Int, place int) [][]*big.Int {
	rows = slices.DeleteFunc(rows, func(row []*big.Int) bool {
		return !slices.ContainsFunc(row, func(n *big.Int) bool { return n.Sign() != 0 })
	})
	for i := 1; i < len(rows); i++ {
		for rows[i][place].Sign() != 0 {
			subtract(rows[0], new(big.Int).Div(rows[0][place], rows[i][place]), rows[i])
			rows[0], rows[i] = rows[i], rows[0]
		}
	}
	return rows
}

func subtract(row []*big.Int, n *big.Int, other []*big.Int) {
	for i := range row {
		row[i].Sub(row[i], new(big.Int).Mul(n, other[i]))
	}
}

// counted counts for each of size places how often it is in a list.
func counted(list []int, size int) []int {
	counts := make([]int, size)
	for _, i := range list {
		counts[i]++
	}
	return counts
}

// isSigned tells whether there are whole coefficients that fill the floor.
func isSigned(p problem) bool {
	size := len(cellsOf(p.r))
	var lists [][]int
	for _, list := range covers(p) {
		lists = append(lists, counted(list, size))
	}
	return isSum(slices.Repeat([]int{1}, size), lists)
}

// turnedFloor is the floor turned by 90 degrees, and mirroredFloor the mirrored one.
func turnedFloor(r []string) []string {
	next := make([]string, len(r[0]))
	for x := range next {
		for y := len(r) - 1; y >= 0; y-- {
			next[x] += r[y][x : x+1]
		}
	}
	return next
}

func mirroredFloor(r []string) []string {
	next := make([]string, len(r))
	for y, row := range r {
		for x := range row {
			next[y] = row[x:x+1] + next[y]
		}
	}
	return next
}

// must fails a test at an error.
func must(t *testing.T, p problem, e api.Errno) {
	t.Helper()
	if e != api.OK {
		t.Fatalf("%q, %v: error %d", p.r, p.tiles, e)
	}
}

func tilings(t *testing.T, p problem) int {
	t.Helper()
	n, e := weight.Tilings(p.r, p.tiles)
	must(t, p, e)
	return n
}

func isWhole(t *testing.T, p problem, w api.Weights) bool {
	t.Helper()
	is, e := weight.IsWhole(p.r, p.tiles, w)
	must(t, p, e)
	return is
}

func isAbove(t *testing.T, p problem, w api.Weights) bool {
	t.Helper()
	is, e := weight.IsAbove(p.r, p.tiles, w)
	must(t, p, e)
	return is
}
