package works

import (
	"cmp"
	"slices"
	"strconv"
	"strings"

	"encaustic/api"
	"encaustic/domino"
	"encaustic/height"
	"encaustic/pattern"
	"encaustic/sample"
)

// floor is a region with the plan of its dominoes and the pattern of their shades; if it is laid, tiles says from which
// batches.
type floor struct {
	name            string
	region, pattern []string
	plan            []api.Domino
	laid            bool
	tiles           []portion
}

// place returns where the floor with a name is, or would have to be.
func (w *Works) place(name string) (int, bool) {
	return slices.BinarySearchFunc(w.floors, name, func(f floor, name string) int {
		return cmp.Compare(f.name, name)
	})
}

// named refuses if there is no floor with that name.
func (w *Works) named(name string) *floor {
	at, ok := w.place(name)
	refuseIf(!ok, api.ErrNone)
	return &w.floors[at]
}

// free refuses, too, if the floor is laid.
func (w *Works) free(name string) *floor {
	f := w.named(name)
	refuseIf(f.laid, api.ErrState)
	return f
}

func (w *Works) addFloor(p params) string {
	at, exists := w.place(p.name)
	refuseIf(exists, api.ErrExists)
	plan, e := domino.Tile(p.rows)
	must(e)
	refuseIf(len(w.floors) >= api.MaxFloors, api.ErrFull)
	count, e := domino.Count(p.rows)
	must(e)
	w.floors = slices.Insert(w.floors, at, floor{name: p.name, region: p.rows, pattern: []string{"a"}, plan: plan})
	return strconv.Itoa(count)
}

func (w *Works) draw(p params) string {
	f, seed := w.free(p.name), p.numbers[0]
	refuseIf(seed < 0, api.ErrArg)
	plan, e := sample.Draw(f.region, uint64(seed))
	must(e)
	index, e := sample.Index(f.region, plan)
	must(e)
	f.plan = plan
	return strconv.Itoa(index)
}

func (w *Works) flip(p params) string {
	f := w.free(p.name)
	plan, e := height.Flip(f.region, f.plan, p.numbers[0], p.numbers[1])
	must(e)
	f.plan = plan
	return "ok"
}

func (w *Works) paint(p params) string {
	f := w.free(p.name)
	group, e := pattern.Group(p.rows)
	must(e)
	f.pattern = p.rows
	return group
}

func (w *Works) tiling(p params) string {
	var words []string
	for _, d := range w.named(p.name).plan {
		words = append(words, strconv.Itoa(d.X)+","+strconv.Itoa(d.Y)+direction(d))
	}
	return strings.Join(words, " ")
}

func direction(d api.Domino) string {
	if d.Down {
		return "d"
	}
	return "r"
}

func (w *Works) names(params) string {
	var words []string
	for _, f := range w.floors {
		words = append(words, f.name)
	}
	return strings.Join(words, " ")
}

func (w *Works) need(p params) string {
	counts := w.named(p.name).needed()
	return listed(counts[:]...)
}

func (w *Works) match(p params) string {
	f := w.named(p.name)
	alone := 0
	for _, d := range f.plan {
		if !slices.ContainsFunc(f.plan, func(other api.Domino) bool { return f.shade(other) == f.shade(d) && touch(other, d) }) {
			alone++
		}
	}
	return strconv.Itoa(alone)
}

// shade is that of the pattern, which goes on without end, at the first cell.
func (f *floor) shade(d api.Domino) byte {
	row := f.pattern[d.Y%len(f.pattern)]
	return row[d.X%len(row)]
}

// needed returns how many dominoes have each shade.
func (f *floor) needed() [shades]int {
	var counts [shades]int
	for _, d := range f.plan {
		counts[f.shade(d)-'a']++
	}
	return counts
}

// laidTiles returns how many tiles were taken from batches.
func (f *floor) laidTiles() int {
	sum := 0
	for _, t := range f.tiles {
		sum += t.tiles
	}
	return sum
}

// touch tells whether a cell of one domino is a neighbour of a cell of the other one. A domino does not touch itself.
func touch(a, b api.Domino) bool {
	if a == b {
		return false
	}
	for _, c := range cells(a) {
		for _, d := range cells(b) {
			if max(c.X-d.X, d.X-c.X)+max(c.Y-d.Y, d.Y-c.Y) == 1 {
				return true
			}
		}
	}
	return false
}

func cells(d api.Domino) [2]api.Cell {
	second := api.Cell{X: d.X + 1, Y: d.Y}
	if d.Down {
		second = api.Cell{X: d.X, Y: d.Y + 1}
	}
	return [2]api.Cell{{X: d.X, Y: d.Y}, second}
}
