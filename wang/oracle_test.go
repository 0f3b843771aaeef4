package wang_test

// What the other tests share: sets to test with, and slow ways to find the same results.

import (
	"math"
	"math/rand"
	"slices"
	"testing"

	"encaustic/api"
)

const (
	least    = math.MinInt
	greatest = math.MaxInt
)

func must(t *testing.T, e api.Errno) {
	t.Helper()
	if e != api.OK {
		t.Fatalf("error %d", e)
	}
}

// tiles makes tiles of their names: the colours North, East, South, West.
func tiles(names ...string) []api.Wang {
	var set []api.Wang
	for _, s := range names {
		set = append(set, api.Wang{North: int(s[0] - '0'), East: int(s[1] - '0'), South: int(s[2] - '0'), West: int(s[3] - '0')})
	}
	return set
}

// turned is the set turned by 90 degrees to the right.
func turned(set []api.Wang) []api.Wang {
	var list []api.Wang
	for _, t := range set {
		list = append(list, api.Wang{North: t.West, East: t.North, South: t.East, West: t.South})
	}
	return list
}

// mirrored is the set with left and right exchanged.
func mirrored(set []api.Wang) []api.Wang {
	var list []api.Wang
	for _, t := range set {
		list = append(list, api.Wang{North: t.North, East: t.West, South: t.South, West: t.East})
	}
	return list
}

// doubling writes the double of a binary number: each digit goes to the left.
func doubling() []api.Wang { return tiles("0000", "0110", "1001", "1111") }

// columns has all tiles of some Norths and Souths, and East and West 0.
func columns(norths, souths int) []api.Wang {
	var set []api.Wang
	for n := range norths {
		for s := range souths {
			set = append(set, api.Wang{North: n, South: s})
		}
	}
	return set
}

// free has all tiles of two colours.
func free() []api.Wang {
	var set []api.Wang
	for i := range 16 {
		set = append(set, api.Wang{North: i & 1, East: i >> 1 & 1, South: i >> 2 & 1, West: i >> 3 & 1})
	}
	return set
}

// fan has Souths and Norths from 1 to 7 each of which can only be followed by 0.
func fan() []api.Wang {
	set := tiles("0000")
	for c := 1; c <= 7; c++ {
		set = append(set, api.Wang{North: c}, api.Wang{South: c})
	}
	return set
}

// pairs has two tiles for each North: with w columns there are 8^w lists of Norths, and 16^w rows.
func pairs() []api.Wang {
	var set []api.Wang
	for i := range 16 {
		set = append(set, api.Wang{North: i / 2, South: (i + i/8) % 8})
	}
	return set
}

// stairs are tiles whose South is the next colour after their North, up to that colour: so many rows can be filled.
func stairs(rows int) []api.Wang {
	var set []api.Wang
	for i := range rows {
		set = append(set, api.Wang{North: i, South: i + 1})
	}
	return set
}

// wheel has colours that go round after p tiles to the right, and after q tiles downwards.
func wheel(p, q int) []api.Wang { return wheelFrom(p, q, 0, 0) }

// wheelFrom uses the colours from east on to the right, and those from south on downwards.
func wheelFrom(p, q, east, south int) []api.Wang {
	var set []api.Wang
	for i := range p {
		for j := range q {
			set = append(set, api.Wang{North: south + j, East: east + (i+1)%p, South: south + (j+1)%q, West: east + i})
		}
	}
	return set
}

// notPeriodic is the set of Jeandel and Rao: it fills the plane, but has no closed board of any size.
func notPeriodic() []api.Wang {
	return tiles("4212", "2202", "1113", "2123", "1333", "1013", "0010", "1320", "2021", "2141", "3321")
}

// handMade are sets of many kinds.
func handMade() [][]api.Wang {
	return [][]api.Wang{
		tiles("0000"),
		tiles("0100"),
		tiles("0010"),
		tiles("0123"),
		tiles("7777"),
		tiles("0000", "1010"),
		tiles("0110", "1001"),
		tiles("0110", "1001", "2222"),
		tiles("1000", "0000", "0010"),
		tiles("0001", "0100", "1011", "1110"),
		tiles("0102", "0201", "0012", "1021"),
		doubling(),
		columns(2, 2),
		columns(4, 4),
		columns(1, 8),
		columns(8, 2),
		free(),
		fan(),
		turned(fan()),
		stairs(1),
		stairs(2),
		stairs(3),
		stairs(4),
		turned(stairs(2)),
		turned(stairs(3)),
		wheel(1, 3),
		wheel(4, 1),
		wheel(2, 3),
		wheel(4, 4),
		append(wheelFrom(3, 2, 0, 0), wheelFrom(2, 3, 3, 2)...),
		append(stairs(3), tiles("4141", "4244", "2444")...),
		notPeriodic(),
	}
}

// randomSet has so many different tiles, or less if there are less of these colours.
func randomSet(r *rand.Rand, count, upright, level int) []api.Wang {
	var set []api.Wang
	for range 4 * count {
		t := api.Wang{North: r.Intn(upright), East: r.Intn(level), South: r.Intn(upright), West: r.Intn(level)}
		if len(set) < count && !slices.Contains(set, t) {
			set = append(set, t)
		}
	}
	return set
}

// fallingSet is such that the colours rise by at least one, downwards: so boards end.
func fallingSet(r *rand.Rand, count, upright, level int) []api.Wang {
	var set []api.Wang
	for range 4 * count {
		n := r.Intn(upright - 1)
		t := api.Wang{North: n, East: r.Intn(level), South: n + 1 + r.Intn(upright-1-n), West: r.Intn(level)}
		if len(set) < count && !slices.Contains(set, t) {
			set = append(set, t)
		}
	}
	return set
}

// randomSets are of all sizes, some of them with boards of all sizes, and some with none of some.
func randomSets(seed int64, count int) [][]api.Wang {
	r := rand.New(rand.NewSource(seed))
	var all [][]api.Wang
	for i := range count {
		n := 1 + r.Intn(api.MaxSet)
		switch i % 5 {
		case 0:
			all = append(all, randomSet(r, n, 1+r.Intn(8), 1+r.Intn(8)))
		case 1:
			all = append(all, randomSet(r, n, 1+r.Intn(3), 1+r.Intn(4)))
		case 2:
			all = append(all, fallingSet(r, n, 2+r.Intn(4), 1+r.Intn(3)))
		case 3:
			all = append(all, turned(fallingSet(r, n, 2+r.Intn(4), 1+r.Intn(3))))
		case 4:
			all = append(all, randomSet(r, 1+r.Intn(5), 2+r.Intn(2), 2))
		}
	}
	return all
}

func manySets() [][]api.Wang { return append(handMade(), randomSets(1, 150)...) }

// lightSets are some that have few rows.
func lightSets(seed int64, count int) [][]api.Wang {
	return slices.DeleteFunc(append(handMade(), randomSets(seed, count)...), func(set []api.Wang) bool {
		return len(slowLines(set, 3)) > 250
	})
}

// eachSize calls f with all measures.
func eachSize(f func(w, h int)) {
	for w := 1; w <= api.MaxBoard; w++ {
		for h := 1; h <= api.MaxBoard; h++ {
			f(w, h)
		}
	}
}

// eachList calls f with all lists of k numbers from 0 to n - 1, in lexicographic order.
func eachList(n, k int, f func(list []int)) {
	list := make([]int, k)
	var fill func(i int)
	fill = func(i int) {
		if i == k {
			f(slices.Clone(list))
			return
		}
		for list[i] = 0; list[i] < n; list[i]++ {
			fill(i + 1)
		}
	}
	fill(0)
}

// cut makes rows of w of a list.
func cut(list []int, w int) [][]int { return slices.Collect(slices.Chunk(list, w)) }

// agree tells whether a board is good, and closed: neighbours across the border decide on the second only.
func agree(set []api.Wang, board [][]int) (bool, bool) {
	w, h := len(board[0]), len(board)
	good, closed := true, true
	for y, row := range board {
		for x, i := range row {
			same := set[i].East == set[row[(x+1)%w]].West
			good, closed = good && (same || x == w-1), closed && same
			same = set[i].South == set[board[(y+1)%h][x]].North
			good, closed = good && (same || y == h-1), closed && same
		}
	}
	return good, closed
}

// allBoards tries all boards.
func allBoards(set []api.Wang, w, h int) [][][]int {
	var all [][][]int
	eachList(len(set), w*h, func(list []int) {
		if good, _ := agree(set, cut(list, w)); good {
			all = append(all, cut(list, w))
		}
	})
	return all
}

// areFew tells whether there are few boards to try.
func areFew(set []api.Wang, w, h int) bool {
	return math.Pow(float64(len(set)), float64(w*h)) < 20000
}

// edge is what the next cell has to know of a board that is filled in reading order: the lowest South in each column, and
// the last East; and if the board is to be closed, the Norths of the first row, and the West of the current one.
type edge struct {
	top, low    [api.MaxBoard]int
	first, last int
}

// laid returns the edge with one more tile at x, y, or false if it does not fit.
func (e edge) laid(t api.Wang, x, y, w, h int, closed bool) (edge, bool) {
	if y > 0 && e.low[x] != t.North || x > 0 && e.last != t.West {
		return edge{}, false
	}
	e.low[x], e.last = t.South, t.East
	if closed && y == 0 {
		e.top[x] = t.North
	}
	if closed && x == 0 {
		e.first = t.West
	}
	if closed && (x == w-1 && e.last != e.first || y == h-1 && e.low[x] != e.top[x]) {
		return edge{}, false
	}
	if x == w-1 {
		e.last, e.first = 0, 0
	}
	return e, true
}

// slowCount goes from cell to cell, and counts the ways to each edge.
func slowCount(set []api.Wang, w, h int, closed bool) int {
	ways := map[edge]int{{}: 1}
	for i := range w * h {
		next := map[edge]int{}
		for e, n := range ways {
			for _, t := range set {
				if f, ok := e.laid(t, i%w, i/w, w, h, closed); ok {
					next[f] += n
				}
			}
		}
		ways = next
	}
	sum := 0
	for _, n := range ways {
		sum += n
	}
	return sum
}

// slowFill returns the first board that is found with the tiles in their order, or nil. It does not try twice from the
// same edge on.
func slowFill(set []api.Wang, w, h int) [][]int {
	type place struct {
		edge
		cell int
	}
	failed := map[place]bool{}
	var list []int
	var fill func(e edge) bool
	fill = func(e edge) bool {
		i := len(list)
		if i == w*h {
			return true
		}
		if failed[place{e, i}] {
			return false
		}
		for k, t := range set {
			if f, ok := e.laid(t, i%w, i/w, w, h, false); ok {
				list = append(list, k)
				if fill(f) {
					return true
				}
				list = list[:i]
			}
		}
		failed[place{e, i}] = true
		return false
	}
	if !fill(edge{}) {
		return nil
	}
	return cut(list, w)
}

// line is the Norths and the Souths of a row.
type line struct{ north, south []int }

// slowLines returns those of all rows.
func slowLines(set []api.Wang, w int) []line {
	var all []line
	var fill func(l line, east int)
	fill = func(l line, east int) {
		if len(l.north) == w {
			all = append(all, l)
			return
		}
		for _, t := range set {
			if len(l.north) == 0 || t.West == east {
				fill(line{append(slices.Clip(l.north), t.North), append(slices.Clip(l.south), t.South)}, t.East)
			}
		}
	}
	fill(line{}, 0)
	return all
}

// slowRows returns the lists of Souths under some Norths.
func slowRows(lines []line, north []int) [][]int {
	var list [][]int
	for _, l := range lines {
		if slices.Equal(l.north, north) {
			list = append(list, l.south)
		}
	}
	return inOrder(list)
}

// inOrder returns the lists in lexicographic order, each once.
func inOrder(list [][]int) [][]int {
	list = slices.Clone(list)
	slices.SortFunc(list, slices.Compare)
	return slices.CompactFunc(list, slices.Equal)
}

// areSame compares lists of lists; an empty one may be nil.
func areSame(a, b [][]int) bool { return slices.EqualFunc(a, b, slices.Equal) }
