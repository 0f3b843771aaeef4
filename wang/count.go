package wang

import (
	"encaustic/api"
)

// many stands for all numbers above the limit, so that sums cannot overflow.
const many = api.MaxCount + 1

func sum(a, b int) int { return min(a+b, many) }

// links tell for each code on one side of the rows the codes on the other side, one for each row.
type links [][]int

// links returns those from Norths down to Souths, and those from Souths up to Norths.
func (b band) links() (links, links) {
	down, up := make(links, codes(b.w)), make(links, codes(b.w))
	for _, r := range b.rows {
		down[r.north] = append(down[r.north], r.south)
		up[r.south] = append(up[r.south], r.north)
	}
	return down, up
}

// follow takes a number for each code along all links.
func (l links) follow(from, to []int) {
	clear(to)
	for code, n := range from {
		if n == 0 {
			continue
		}
		for _, other := range l[code] {
			to[other] = sum(to[other], n)
		}
	}
}

// walk follows the links from the first list of numbers to the last one.
func (l links) walk(steps [][]int) {
	for k := range len(steps) - 1 {
		l.follow(steps[k], steps[k+1])
	}
}

// walkFrom is the last list of a walk from one code.
func (l links) walkFrom(code int, steps [][]int) []int {
	clear(steps[0])
	steps[0][code] = 1
	l.walk(steps)
	return steps[len(steps)-1]
}

// steps has memory for a walk of so many steps.
func (b band) steps(count int) [][]int {
	lists := make([][]int, count+1)
	for i := range lists {
		lists[i] = make([]int, codes(b.w))
	}
	return lists
}

// ways returns, for each number of rows up to h and each code, how many good boards of so many rows have these Norths.
// Of no rows there is always one.
func (b band) ways(h int) [][]int {
	ways := b.steps(h)
	for code := range ways[0] {
		ways[0][code] = 1
	}
	_, up := b.links()
	up.walk(ways)
	return ways
}

// count returns the number of good boards of h rows, or many.
func (b band) count(h int) int {
	count := 0
	for _, n := range b.ways(h)[h] {
		count = sum(count, n)
	}
	return count
}

// closed returns the number of closed boards of h rows. From the Norths of the first row it goes half of the rows down and,
// as these are the Souths of the last row too, the others up: that meets fewer rows than going down all the way.
// A product counts closed boards, so it cannot overflow: of four by four there are at most 2^32, since the eight tiles on
// the black cells of a chessboard have all sides that there are, and smaller ones have at most twelve tiles.
func (b band) closed(h int) int {
	down, up := b.ring().links()
	falls, climbs := b.steps(h/2), b.steps(h-h/2)
	count := 0
	for code := range down {
		if len(down[code]) == 0 || len(up[code]) == 0 {
			continue
		}
		below, above := down.walkFrom(code, falls), up.walkFrom(code, climbs)
		for middle, n := range below {
			count = sum(count, n*above[middle])
		}
	}
	return count
}

// least returns the measures of the closed board with the fewest cells, of several the one with the least w, or 0, 0.
func least(set []api.Wang) (int, int) {
	leastW, leastH := 0, 0
search:
	for cells := 1; cells <= api.MaxBoard*api.MaxBoard; cells++ {
		for w := 1; w <= api.MaxBoard; w++ {
			h := cells / w
			if h*w == cells && isMeasure(h) && bandOf(set, w).closed(h) > 0 {
				leastW, leastH = w, h
				break search
			}
		}
	}
	return leastW, leastH
}
