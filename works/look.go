package works

import (
	"strconv"

	"encaustic/api"
	"encaustic/domino"
	"encaustic/lozenge"
	"encaustic/square"
)

func (w *Works) why(p params) string {
	count, e := domino.Count(p.rows)
	must(e)
	if count == 0 {
		return "hall"
	}
	return "tiles " + strconv.Itoa(count)
}

func (w *Works) box(p params) string {
	count, e := lozenge.Count(api.Box{A: p.numbers[0], B: p.numbers[1], C: p.numbers[2]})
	must(e)
	return strconv.Itoa(count)
}

func (w *Works) cut(p params) string {
	squares, e := square.Cut(p.numbers[0], p.numbers[1])
	must(e)
	var sides []int
	for _, s := range squares {
		sides = append(sides, s.Side)
	}
	return listed(sides...)
}

func (w *Works) report(params) string {
	a := w.Audit()
	word := "bad "
	if a.Good {
		word = "good "
	}
	return word + listed(a.Commands, a.Batches, a.Tiles, a.Left, a.Laid, a.Floors)
}
