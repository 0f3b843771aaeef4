package pattern_test

// What the tests share: patterns, and slow ways to look at symmetries that use only what the chapter says of a floor.

import (
	"math"
	"math/rand"
	"slices"
	"testing"

	"encaustic/api"
)

const (
	least    = math.MinInt
	greatest = math.MaxInt
)

func must(t *testing.T, e api.Errno) {
	t.Helper()
	if e != api.OK {
		t.Fatalf("error %d", e)
	}
}

// kinds are the eight kinds in the order of the chapter.
func kinds() []api.Move {
	return []api.Move{
		{A: 1, D: 1},
		{B: -1, C: 1},
		{A: -1, D: -1},
		{B: 1, C: -1},
		{A: 1, D: -1},
		{A: -1, D: 1},
		{B: 1, C: 1},
		{B: -1, C: -1},
	}
}

// move is a move of a kind.
func move(kind, e, f int) api.Move {
	m := kinds()[kind]
	m.E, m.F = e, f
	return m
}

// image is where a move takes a cell.
func image(m api.Move, x, y int) (int, int) {
	return m.A*x + m.B*y + m.E, m.C*x + m.D*y + m.F
}

// inside is the number from 0 to n - 1 that differs from a by a multiple of n.
func inside(a, n int) int {
	for a %= n; a < 0; {
		a += n
	}
	return a
}

// colour is the colour of a cell of the floor.
func colour(p []string, x, y int) byte {
	return p[inside(y, len(p))][inside(x, len(p[0]))]
}

// isSymmetry compares a square of which both sides are multiples of both measures.
func isSymmetry(p []string, m api.Move) bool {
	side := len(p) * len(p[0])
	for y := range side {
		for x := range side {
			if tx, ty := image(m, x, y); colour(p, x, y) != colour(p, tx, ty) {
				return false
			}
		}
	}
	return true
}

// known is a pattern with all its symmetries; those with E and F inside the pattern tell the others.
type known struct {
	p    []string
	w, h int
	keep [8][6][6]bool
}

func know(p []string) *known {
	k := &known{p: p, w: len(p[0]), h: len(p)}
	for kind := range 8 {
		for e := range k.w {
			for f := range k.h {
				k.keep[kind][e][f] = isSymmetry(p, move(kind, e, f))
			}
		}
	}
	return k
}

func (k *known) has(kind, e, f int) bool {
	return k.keep[kind][inside(e, k.w)][inside(f, k.h)]
}

// each calls f with all symmetries of which E and F are from low to high - 1.
func (k *known) each(low, high int, f func(kind int, m api.Move)) {
	for kind := range 8 {
		for x := low; x < high; x++ {
			for y := low; y < high; y++ {
				if k.has(kind, x, y) {
					f(kind, move(kind, x, y))
				}
			}
		}
	}
}

// inGrid tells whether e, f is a sum of the lattice's vectors, by adding them.
func inGrid(g api.Grid, e, f int) bool {
	for e > 0 {
		e, f = e-g.A, f-g.B
	}
	for e < 0 {
		e, f = e+g.A, f+g.B
	}
	return e == 0 && f%g.D == 0
}

// sets is a set of points that are joined to one another.
type sets []int

func newSets(n int) sets {
	s := make(sets, n)
	for i := range s {
		s[i] = i
	}
	return s
}

func (s sets) root(i int) int {
	for s[i] != i {
		i = s[i]
	}
	return i
}

func (s sets) join(i, j int) { s[s.root(i)] = s.root(j) }

// all calls f with all patterns of w columns and h rows of the first n colours.
func all(w, h, n int, f func(p []string)) {
	cells := make([]byte, w*h)
	var fill func(i int)
	fill = func(i int) {
		if i < len(cells) {
			for c := range n {
				cells[i] = byte('a' + c)
				fill(i + 1)
			}
			return
		}
		f(rowsOf(cells, w))
	}
	fill(0)
}

func rowsOf(cells []byte, w int) []string {
	var p []string
	for row := range slices.Chunk(cells, w) {
		p = append(p, string(row))
	}
	return p
}

// smallPatterns are all patterns of a few cells.
func smallPatterns() [][]string {
	var list [][]string
	add := func(p []string) { list = append(list, p) }
	for w := 1; w <= 3; w++ {
		for h := 1; h <= 3; h++ {
			all(w, h, 2, add)
		}
	}
	for _, c := range [][3]int{{2, 4, 2}, {4, 2, 2}, {1, 6, 2}, {6, 1, 2}, {5, 1, 3}, {3, 2, 3}, {2, 3, 3}, {2, 2, 4}, {1, 4, 4}} {
		all(c[0], c[1], c[2], add)
	}
	return list
}

// kept makes a pattern at random that the moves keep; they fit on these measures.
func kept(r *rand.Rand, w, h, colours int, moves []api.Move) []string {
	cells := newSets(w * h)
	for _, m := range moves {
		for i := range cells {
			x, y := image(m, i%w, i/w)
			cells.join(i, inside(y, h)*w+inside(x, w))
		}
	}
	shades, p := make([]byte, w*h), make([]byte, w*h)
	for i := range shades {
		shades[i] = byte('a' + r.Intn(colours))
	}
	x, y := r.Intn(w), r.Intn(h)
	for i := range p {
		p[i] = shades[cells.root((i/w+y)%h*w+(i%w+x)%w)]
	}
	return rowsOf(p, w)
}

// random makes a pattern with some moves at random.
func random(r *rand.Rand, w, h, colours, n int) []string {
	var moves []api.Move
	for range n {
		kind := r.Intn(8)
		if w != h && kinds()[kind].A == 0 {
			kind = []int{0, 2, 4, 5}[kind%4]
		}
		moves = append(moves, move(kind, r.Intn(w), r.Intn(h)))
	}
	return kept(r, w, h, colours, moves)
}

// rare are moves that make groups that moves at random seldom make; those that exchange X and Y are for squares only.
func rare(w, h int) [][]api.Move {
	list := [][]api.Move{
		{move(4, w/2, 0)},
		{move(5, 0, h/2)},
		{move(2, 0, 0), move(4, w/2, h/2)},
		{move(2, 1, 0), move(5, w/2, h/2)},
		{move(2, 0, 0), move(4, w/2, 0)},
		{move(2, 0, 0), move(5, 0, h/2)},
		{move(4, 0, 0), move(0, w/2, h/2)},
		{move(5, 0, 0), move(0, w/2, h/2)},
		{move(2, 0, 0), move(4, 0, 0), move(0, w/2, h/2)},
	}
	if w != h {
		return list
	}
	return append(list,
		[]api.Move{move(1, 0, 0)},
		[]api.Move{move(3, 1, 0)},
		[]api.Move{move(1, 0, 0), move(7, w/2, w/2)},
		[]api.Move{move(1, 0, 0), move(0, w/2, w/2)},
		[]api.Move{move(6, w/2, 0)},
		[]api.Move{move(7, w/2, 0)},
		[]api.Move{move(6, 0, 0), move(0, w/2, w/2)},
		[]api.Move{move(7, 0, 0), move(0, w/2, w/2)},
		[]api.Move{move(2, 0, 0), move(6, w/2, 0), move(0, w/2, w/2)},
		[]api.Move{move(2, 0, 0), move(6, 1, 1), move(0, w/2, w/2)},
		[]api.Move{move(2, 1, 0), move(7, 1, 1), move(0, w/2, w/2)},
		[]api.Move{move(2, 0, 0), move(6, 0, 0)},
		[]api.Move{move(2, 0, 0), move(6, 0, 0), move(0, w/2, w/2)},
	)
}

// randomPatterns are patterns of all measures, most of them with symmetries.
func randomPatterns(seed int64, rounds int) [][]string {
	r := rand.New(rand.NewSource(seed))
	var list [][]string
	for range rounds {
		for w := 1; w <= 6; w++ {
			for h := 1; h <= 6; h++ {
				list = append(list, random(r, w, h, 1+r.Intn(4), r.Intn(4)))
			}
			list = append(list, random(r, w, w, 2+r.Intn(3), 1+r.Intn(3)))
		}
	}
	for _, c := range [][2]int{{4, 4}, {6, 4}, {4, 6}, {6, 6}} {
		for _, moves := range rare(c[0], c[1]) {
			for range rounds {
				list = append(list, kept(r, c[0], c[1], 2+r.Intn(3), moves))
			}
		}
	}
	return list
}

func manyPatterns() [][]string {
	return append(smallPatterns(), randomPatterns(1, 8)...)
}

// fewPatterns are for what takes longer.
func fewPatterns() [][]string {
	var list [][]string
	for i, p := range smallPatterns() {
		if i%9 == 0 {
			list = append(list, p)
		}
	}
	return append(list, randomPatterns(2, 2)...)
}

// aperiodic has no symmetry but its own measures.
func aperiodic(w, h int) []string {
	p := make([]byte, w*h)
	for i := range p {
		p[i] = 'a'
	}
	p[0] = 'b'
	if w > 1 {
		p[1] = 'c'
	}
	if h > 1 {
		p[w] = 'd'
	}
	return rowsOf(p, w)
}
