package pattern_test

// P6.5 (Orbits, Colourings), P6.10 (Burnside): orbits are joined cell by cell, and colourings are listed and compared.

import (
	"reflect"
	"slices"
	"testing"

	"encaustic/api"
	"encaustic/pattern"
)

func TestOrbitsExamples(t *testing.T) {
	for _, c := range []struct {
		p    []string
		want [][]int
	}{
		{[]string{"a"}, [][]int{{0}}},
		{[]string{"aaa", "aaa"}, [][]int{{0, 0, 0}, {0, 0, 0}}},
		{[]string{"ab"}, [][]int{{0, 1}}},
		{[]string{"ba"}, [][]int{{0, 1}}},
		{[]string{"ab", "ba"}, [][]int{{0, 1}, {1, 0}}},
		{[]string{"ab", "cd"}, [][]int{{0, 1}, {2, 3}}},
		{[]string{"ab", "bc"}, [][]int{{0, 1}, {1, 2}}},
		{[]string{"ab", "bb"}, [][]int{{0, 1}, {1, 2}}},
		{[]string{"aaab"}, [][]int{{0, 1, 0, 2}}},
		{[]string{"abc", "cab", "bca"}, [][]int{{0, 1, 2}, {2, 0, 1}, {1, 2, 0}}},
		{[]string{"aab", "bcc", "ddd"}, [][]int{{0, 1, 2}, {3, 4, 5}, {6, 7, 8}}},
		{[]string{"abbb", "bbbb", "bbab", "bbbb"}, [][]int{{0, 1, 2, 1}, {1, 3, 1, 3}, {2, 1, 0, 1}, {1, 3, 1, 3}}},
		{[]string{"aaa", "abb", "bab"}, [][]int{{0, 0, 1}, {2, 3, 4}, {3, 2, 4}}},
		{[]string{"babb", "abbb", "bbab", "bbba"}, [][]int{{0, 1, 2, 2}, {1, 0, 2, 2}, {2, 2, 1, 0}, {2, 2, 0, 1}}},
	} {
		if got, e := pattern.Orbits(c.p); !reflect.DeepEqual(got, c.want) || e != api.OK {
			t.Errorf("%q: Orbits are %v, %d, want %v", c.p, got, e, c.want)
		}
	}
}

// slowOrbits joins each cell with where each symmetry takes it.
func slowOrbits(k *known) [][]int {
	cells := newSets(k.w * k.h)
	k.each(0, 6, func(_ int, m api.Move) {
		for i := range cells {
			x, y := image(m, i%k.w, i/k.w)
			cells.join(i, inside(y, k.h)*k.w+inside(x, k.w))
		}
	})
	numbers := map[int]int{}
	var rows [][]int
	for y := range k.h {
		var row []int
		for x := range k.w {
			root := cells.root(y*k.w + x)
			if _, ok := numbers[root]; !ok {
				numbers[root] = len(numbers)
			}
			row = append(row, numbers[root])
		}
		rows = append(rows, row)
	}
	return rows
}

func TestOrbitsAreJoinedCells(t *testing.T) {
	for _, p := range manyPatterns() {
		want := slowOrbits(know(p))
		if got, e := pattern.Orbits(p); !reflect.DeepEqual(got, want) || e != api.OK {
			t.Errorf("%q: Orbits are %v, %d, want %v", p, got, e, want)
		}
	}
}

// TestOrbitsHaveOneColour, as symmetries keep colours.
func TestOrbitsHaveOneColour(t *testing.T) {
	for _, p := range manyPatterns() {
		rows, e := pattern.Orbits(p)
		must(t, e)
		colours := map[int]byte{}
		for y, row := range rows {
			for x, number := range row {
				if c, ok := colours[number]; ok && c != p[y][x] {
					t.Errorf("%q: in %v the orbit %d has the colours %c and %c", p, rows, number, c, p[y][x])
				}
				colours[number] = p[y][x]
			}
		}
	}
}

func TestColouringsExamples(t *testing.T) {
	for _, c := range []struct {
		p       []string
		n, want int
	}{
		{[]string{"a"}, 1, 1},
		{[]string{"a"}, 3, 3},
		{[]string{"a"}, 4, 4},
		{[]string{"bbbbbb", "bbbbbb", "bbbbbb", "bbbbbb", "bbbbbb", "bbbbbb"}, 4, 4},
		{[]string{"ab"}, 2, 4},
		{[]string{"ab", "ba"}, 2, 4},
		{[]string{"ab", "ba"}, 4, 16},
		{[]string{"ab", "cd"}, 2, 16},
		{[]string{"ab", "bb"}, 2, 12},
		{[]string{"abc"}, 2, 8},
		{[]string{"aab"}, 2, 6},
		{[]string{"abc", "cab", "bca"}, 2, 8},
		{[]string{"abc", "cab", "bca"}, 4, 64},
		{[]string{"aab", "bcc", "ddd"}, 4, 1 << 18},
		{[]string{"aaab", "caab", "bcab", "dddd"}, 1, 1},
		{[]string{"aaab", "caab", "bcab", "dddd"}, 2, 1 << 16},
		{[]string{"aaab", "caab", "bcab", "dddd"}, 4, 1 << 32},
	} {
		if got, e := pattern.Colourings(c.p, c.n); got != c.want || e != api.OK {
			t.Errorf("%q: Colourings with %d is %d, %d, want %d", c.p, c.n, got, e, c.want)
		}
	}
}

func TestColouringsErrors(t *testing.T) {
	for _, n := range []int{least, -1 << 32, -1, 0, 5, 6, 1 << 32, 1<<32 + 2, greatest} {
		for _, p := range [][]string{{"a"}, {"ab", "cd"}, aperiodic(6, 6), {"ae"}, nil} {
			if got, e := pattern.Colourings(p, n); got != 0 || e != api.ErrArg {
				t.Errorf("%q: Colourings with %d is %d, %d, want ErrArg", p, n, got, e)
			}
		}
	}
	for n := 1; n <= 4; n++ {
		if got, e := pattern.Colourings([]string{"ae"}, n); got != 0 || e != api.ErrArg {
			t.Errorf("Colourings of no pattern with %d is %d, %d", n, got, e)
		}
		for w := 1; w <= 6; w++ {
			for h := 1; h <= 6; h++ {
				want := api.OK
				if w*h > 16 {
					want = api.ErrFull
				}
				if got, e := pattern.Colourings(aperiodic(w, h), n); e != want || want != api.OK && got != 0 {
					t.Errorf("%d by %d: Colourings with %d is %d, %d, want %d", w, h, n, got, e, want)
				}
			}
		}
	}
}

// TestColouringsCountsPeriod: what is too long for a pattern may be short enough for a lattice.
func TestColouringsCountsPeriod(t *testing.T) {
	full := 0
	for _, p := range manyPatterns() {
		g, _ := pattern.Lattice(p)
		got, e := pattern.Colourings(p, 2)
		if isFull := g.A*g.D > 16; isFull != (e == api.ErrFull) || isFull && got != 0 || !isFull && (e != api.OK || got < 1) {
			t.Errorf("%q: the lattice is %v, and Colourings with 2 is %d, %d", p, g, got, e)
		}
		if e == api.ErrFull {
			full++
		}
	}
	if full < 10 {
		t.Errorf("only %d of the lattices are too large", full)
	}
}

// homes tells, for each symmetry of the list, where it takes each cell of the lattice's period.
func homes(g api.Grid, list []api.Move) [][]int {
	home := func(x, y int) int {
		for ; x < 0; x, y = x+g.A, y+g.B {
		}
		for ; x >= g.A; x, y = x-g.A, y-g.B {
		}
		return inside(y, g.D)*g.A + x
	}
	var all [][]int
	for _, m := range list {
		to := make([]int, g.A*g.D)
		for i := range to {
			to[i] = home(image(m, i%g.A, i/g.A))
		}
		all = append(all, to)
	}
	return all
}

// slowColourings lists all colourings: it counts those that are the least of all that symmetries make of them, and how
// many each symmetry leaves as they are.
func slowColourings(homes [][]int, n int) (int, []int) {
	size := len(homes[0])
	count, kept := 0, make([]int, len(homes))
	colours, other := make([]int, size), make([]int, size)
	for {
		isLeast := true
		for i, to := range homes {
			for from, cell := range to {
				other[cell] = colours[from]
			}
			switch slices.Compare(other, colours) {
			case 0:
				kept[i]++
			case -1:
				isLeast = false
			}
		}
		if isLeast {
			count++
		}
		i := size - 1
		for i >= 0 && colours[i] == n-1 {
			colours[i] = 0
			i--
		}
		if i < 0 {
			return count, kept
		}
		colours[i]++
	}
}

func power(n, k int) int {
	product := 1
	for range k {
		product *= n
	}
	return product
}

// wantBurnside lists the colourings, if there are not too many: Colourings is their number, and the mean of those that
// each symmetry keeps. It tells whether it has seen colourings with two colours.
func wantBurnside(t *testing.T, p []string, most int) bool {
	t.Helper()
	g, _ := pattern.Lattice(p)
	list, e := pattern.Symmetries(p)
	must(t, e)
	n := 1
	for ; n <= 4 && g.A*g.D <= 16 && power(n, g.A*g.D) <= most; n++ {
		got, e := pattern.Colourings(p, n)
		want, kept := slowColourings(homes(g, list), n)
		sum := 0
		for _, k := range kept {
			sum += k
		}
		if got != want || got*len(list) != sum || e != api.OK {
			t.Errorf("%q: Colourings with %d is %d, %d, want %d, and %v are kept by %v", p, n, got, e, want, kept, list)
		}
	}
	return n > 2
}

func TestBurnside(t *testing.T) {
	seen := map[string]bool{}
	see := func(p []string, most int) {
		if wantBurnside(t, p, most) {
			name, _ := pattern.Group(p)
			seen[name] = true
		}
	}
	for _, p := range fewPatterns() {
		see(p, 20000)
	}
	for _, p := range [][]string{ // their periods have 16 cells
		{"babb", "abbb", "bbab", "bbba"},
		{"baaa", "bbba", "bbab", "abaa"},
		{"abbb", "bbbb", "bbbb", "bbbb"},
		{"abab", "aabb", "baba", "bbaa"},
		{"aaba", "abbb", "abaa", "bbba"},
	} {
		see(p, 1<<16)
	}
	for _, row := range table() {
		if !seen[row.name] {
			t.Errorf("no pattern is %s", row.name)
		}
	}
}

func TestColouringsGrow(t *testing.T) {
	for _, p := range manyPatterns() {
		last := 0
		for n := 1; n <= 4; n++ {
			got, e := pattern.Colourings(p, n)
			if e == api.ErrFull {
				break
			}
			if got <= last || n == 1 && got != 1 || e != api.OK {
				t.Errorf("%q: Colourings with %d is %d, %d, and with one less %d", p, n, got, e, last)
			}
			last = got
		}
	}
}
