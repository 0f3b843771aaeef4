package works

import (
	"slices"
	"strconv"

	"encaustic/api"
)

const (
	maxCalibre = 9
	shades     = 4
)

// portion is how many tiles were taken from the batch with a number.
type portion struct{ no, tiles int }

func checkCalibre(calibre int) {
	refuseIf(calibre < 1 || calibre > maxCalibre, api.ErrArg)
}

func (w *Works) addBatch(p params) string {
	calibre, count := p.numbers[0], p.numbers[1]
	checkCalibre(calibre)
	refuseIf(count < 1 || count > api.MaxBatch, api.ErrArg)
	refuseIf(len(w.batches) >= api.MaxBatches, api.ErrFull)
	no := len(w.batches) + 1
	w.batches = append(w.batches, api.Batch{No: no, Shade: p.shade, Calibre: calibre, Count: count, Left: count})
	return "batch " + strconv.Itoa(no)
}

func (w *Works) stock(p params) string {
	calibre := p.numbers[0]
	checkCalibre(calibre)
	var left [shades]int
	for _, b := range w.batches {
		if b.Calibre == calibre {
			left[b.Shade-'a'] += b.Left
		}
	}
	return listed(left[:]...)
}

// take takes tiles from batches of a shade and calibre, and returns how many from which; it refuses if there are too few.
// Each batch that is chosen is needed: so from all but the last one all that is left is taken.
func (w *Works) take(shade byte, calibre, need int) []portion {
	var places, left []int
	for i, b := range w.batches {
		if b.Shade == shade && b.Calibre == calibre {
			places = append(places, i)
			left = append(left, b.Left)
		}
	}
	chosen, ok := choose(left, need)
	refuseIf(!ok, api.ErrPlan)
	var taken []portion
	for _, i := range chosen {
		b := &w.batches[places[i]]
		tiles := min(b.Left, need)
		b.Left -= tiles
		need -= tiles
		taken = append(taken, portion{b.No, tiles})
	}
	return taken
}

// putBack undoes what take has done.
func (w *Works) putBack(taken []portion) {
	for _, t := range taken {
		w.batches[t.no-1].Left += t.tiles
	}
}

// choose returns the fewest places of left whose numbers are at least need together, and of several such lists the least
// one; false if all are too few. It takes every place with which enough can still be reached: not taking one that can be
// in such a list would make the list greater.
func choose(left []int, need int) ([]int, bool) {
	size := 0
	for most(left, size) < need {
		if size == len(left) {
			return nil, false
		}
		size++
	}
	var chosen []int
	for i, n := range left {
		if size > 0 && n+most(left[i+1:], size-1) >= need {
			chosen = append(chosen, i)
			need -= n
			size--
		}
	}
	return chosen, true
}

// most returns the sum of the greatest numbers of a list, as many as size says, or of all if there are fewer.
func most(list []int, size int) int {
	sorted := slices.Sorted(slices.Values(list))
	sum := 0
	for _, n := range sorted[max(len(sorted)-size, 0):] {
		sum += n
	}
	return sum
}
