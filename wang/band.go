package wang

import (
	"slices"

	"encaustic/api"
)

// row is a good board of one row. Its Norths are kept as their code, and so are its Souths.
type row struct {
	tiles        [api.MaxBoard]int
	north, south int
	west, east   int
}

// with is the row with one more tile at the place x, the tile t with the index i.
func (r row) with(x, i int, t api.Wang) row {
	if x == 0 {
		r.west = t.West
	}
	r.tiles[x] = i
	r.east = t.East
	r.north = r.north*colours + t.North
	r.south = r.south*colours + t.South
	return r
}

// codeOf makes one number of a list of colours, its digits. Codes of lists of one length are ordered as the lists are.
func codeOf(list []int) int {
	code := 0
	for _, c := range list {
		code = code*colours + c
	}
	return code
}

// listOf is the list of w colours that has a code.
func listOf(code, w int) []int {
	list := make([]int, w)
	for i := w - 1; i >= 0; i-- {
		list[i] = code % colours
		code /= colours
	}
	return list
}

// codes is the number of codes of w colours.
func codes(w int) int {
	count := 1
	for range w {
		count *= colours
	}
	return count
}

// band is all rows of w tiles of a set, in lexicographic order.
type band struct {
	w    int
	rows []row
}

func bandOf(set []api.Wang, w int) band {
	return band{w, rowsOf(set, w, func(int, api.Wang) bool { return true })}
}

// rowsOf returns the rows of w tiles of which each fits at its place x.
func rowsOf(set []api.Wang, w int, fits func(x int, t api.Wang) bool) []row {
	rows := []row{{}}
	for x := range w {
		var longer []row
		for _, r := range rows {
			for i, t := range set {
				if fits(x, t) && (x == 0 || r.east == t.West) {
					longer = append(longer, r.with(x, i, t))
				}
			}
		}
		rows = longer
	}
	return rows
}

// souths returns the lists of Souths of all rows with some Norths, in lexicographic order.
func souths(set []api.Wang, north []int) [][]int {
	var all []int
	for _, r := range rowsOf(set, len(north), func(x int, t api.Wang) bool { return t.North == north[x] }) {
		all = append(all, r.south)
	}
	slices.Sort(all)
	var lists [][]int
	for _, code := range slices.Compact(all) {
		lists = append(lists, listOf(code, len(north)))
	}
	return lists
}

// ring is the band of those rows that agree with themselves round about.
func (b band) ring() band {
	ring := band{w: b.w}
	for _, r := range b.rows {
		if r.east == r.west {
			ring.rows = append(ring.rows, r)
		}
	}
	return ring
}

// fill returns the least good board of h rows, or nil. A row can be taken whenever the ways below it are not none.
func (b band) fill(h int) [][]int {
	ways := b.ways(h)
	var board [][]int
	south := 0
	for left := h - 1; left >= 0; left-- {
		i := slices.IndexFunc(b.rows, func(r row) bool {
			return (len(board) == 0 || r.north == south) && ways[left][r.south] > 0
		})
		if i < 0 {
			return nil
		}
		board = append(board, slices.Clone(b.rows[i].tiles[:b.w]))
		south = b.rows[i].south
	}
	return board
}
