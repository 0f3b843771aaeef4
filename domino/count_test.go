package domino_test

// P2.3 (Count), P2.4 (Kasteleyn), P2.8 (Kasteleyn), P2.9 (counting), P2.10 (rectangles).

import (
	"slices"
	"testing"

	"encaustic/api"
	"encaustic/domino"
)

func TestCountExamples(t *testing.T) {
	for _, c := range []struct {
		r    []string
		want int
	}{
		{[]string{"##", "##"}, 2},
		{[]string{"###", "###", "##."}, 4},
		{[]string{"#.", ".#"}, 0},
		{[]string{"###", "#.#", "###"}, 2},
		{[]string{"#"}, 0},
		{[]string{"."}, 1},
		{blank(8, 8), 1},
		{[]string{"##.##", "##.##"}, 4},
		{rectangle(2, 8), 34},
		{rectangle(8, 2), 34},
		{rectangle(3, 8), 153},
		{rectangle(4, 8), 2245},
		{rectangle(8, 5), 14824},
		{rectangle(6, 8), 167089},
		{rectangle(8, 7), 1292697},
		{rectangle(8, 8), 12988816},
		{rectangle(7, 7), 0},
		{diamond(), 1024},
	} {
		if got, e := domino.Count(c.r); got != c.want || e != api.OK {
			t.Errorf("Count(%q) = %d, %d, want %d", c.r, got, e, c.want)
		}
	}
}

func TestCountIsTheNumberOfTilings(t *testing.T) {
	for _, r := range smallRegions() {
		if got, want := count(t, r), len(tilings(r)); got != want {
			t.Errorf("Count(%q) = %d, want %d", r, got, want)
		}
	}
}

func TestKasteleynExamples(t *testing.T) {
	for _, c := range []struct {
		r    []string
		want int
	}{
		{[]string{"##", "##"}, 2},
		{[]string{"##"}, 1},
		{[]string{"#", "#"}, 1},
		{[]string{".#", ".#"}, -1},
		{[]string{"##", "#.", "#."}, 1},
		{[]string{"###", "#.#", "###"}, 0},
		{[]string{"###", "###", "##."}, -4},
		{[]string{"."}, 1},
		{blank(8, 8), 1},
		{[]string{"#"}, 0},
		{[]string{"###"}, 0},
		{[]string{"#.", ".#"}, 0},
		{[]string{"#..#"}, 0},
	} {
		if got, e := domino.Kasteleyn(c.r); got != c.want || e != api.OK {
			t.Errorf("Kasteleyn(%q) = %d, %d, want %d", c.r, got, e, c.want)
		}
	}
}

// expanded is the determinant, from a row on, by its definition; it follows only numbers that are not 0.
func expanded(m [][]int, row int, taken []bool) int {
	if row == len(m) {
		return 1
	}
	sum, sign := 0, 1
	for column, number := range m[row] {
		if taken[column] {
			continue
		}
		if number != 0 {
			taken[column] = true
			sum += sign * number * expanded(m, row+1, taken)
			taken[column] = false
		}
		sign = -sign
	}
	return sum
}

// slowKasteleyn writes the matrix as the document says.
func slowKasteleyn(r []string) int {
	isBlack := func(c api.Cell) bool { return (c.X+c.Y)%2 == 0 }
	whites := slices.DeleteFunc(cellsOf(r), isBlack)
	var m [][]int
	for _, b := range cellsOf(r) {
		if !isBlack(b) {
			continue
		}
		row := make([]int, len(whites))
		for i, w := range whites {
			switch {
			case b.Y == w.Y && (b.X == w.X+1 || w.X == b.X+1):
				row[i] = 1
			case b.X == w.X && (b.Y == w.Y+1 || w.Y == b.Y+1):
				row[i] = 1 - b.X%2*2
			}
		}
		m = append(m, row)
	}
	if len(m) != len(whites) {
		return 0
	}
	return expanded(m, 0, make([]bool, len(whites)))
}

func TestKasteleynIsTheDeterminant(t *testing.T) {
	regions := append(smallRegions(), diamond(), rectangle(6, 6), rectangle(8, 4), rectangle(4, 8))
	for _, r := range append(regions, largeRegions()[10:]...) {
		if count(t, r) > 10000 {
			continue
		}
		if got, want := kasteleyn(t, r), slowKasteleyn(r); got != want {
			t.Errorf("Kasteleyn(%q) = %d, want %d", r, got, want)
		}
	}
}

// TestKasteleynCounts: it does so without holes, and with holes it counts at most as many.
func TestKasteleynCounts(t *testing.T) {
	less := 0
	for _, r := range append(allRegions(), ringed()...) {
		n, k := count(t, r), kasteleyn(t, r)
		signless := max(k, -k)
		if signless > n || holes(t, r) == 0 && signless != n {
			t.Errorf("%q: Count %d, Kasteleyn %d, holes %d", r, n, k, holes(t, r))
		}
		if signless < n {
			less++
		}
	}
	if less < 3 {
		t.Errorf("just %d regions have fewer", less)
	}
}

// ringed are large regions with holes.
func ringed() [][]string {
	full := rectangle(8, 8)
	return [][]string{
		without(full, cellList(2, 2, 5, 5, 2, 4, 5, 3)...),
		without(full, cellList(1, 1, 1, 2)...),
		without(full, cellList(3, 3, 4, 3, 3, 4, 4, 4)...),
		without(full, cellList(1, 1, 2, 6)...),
		without(full, cellList(1, 1, 6, 6, 1, 6, 6, 1)...),
		without(full, cellList(2, 2, 2, 5, 3, 3, 4, 4)...),
	}
}

func TestCountIsTheProductOverParts(t *testing.T) {
	for _, r := range allRegions() {
		product := 1
		for _, part := range parts(t, r) {
			product *= count(t, part)
		}
		if n := count(t, r); n != product {
			t.Errorf("Count(%q) = %d, its parts %d", r, n, product)
		}
	}
}

// mirrored exchanges left and right.
func mirrored(r []string) []string {
	next := make([]string, len(r))
	for y, row := range r {
		line := []byte(row)
		slices.Reverse(line)
		next[y] = string(line)
	}
	return next
}

// turned turns by 90 degrees.
func turned(r []string) []string {
	next := make([]string, len(r[0]))
	for x := range next {
		for y := range r {
			next[x] += r[len(r)-1-y][x : x+1]
		}
	}
	return next
}

func TestCountOfMirroredAndTurned(t *testing.T) {
	for _, r := range allRegions() {
		n := count(t, r)
		if a, b := count(t, mirrored(r)), count(t, turned(r)); a != n || b != n {
			t.Errorf("Count(%q) = %d, mirrored %d, turned %d", r, n, a, b)
		}
	}
}

func TestCountIsTheSumOverTheFirstCell(t *testing.T) {
	for _, r := range allRegions() {
		cells := cellsOf(r)
		if len(cells) == 0 {
			continue
		}
		sum := 0
		for _, d := range []api.Domino{across(cells[0].X, cells[0].Y), down(cells[0].X, cells[0].Y)} {
			if a, b := ends(d); has(r, b.X, b.Y) {
				sum += count(t, without(r, a, b))
			}
		}
		if n := count(t, r); n != sum {
			t.Errorf("Count(%q) = %d, over its first cell %d", r, n, sum)
		}
	}
}

func TestRectanglesOfEvenAreaHaveTilings(t *testing.T) {
	for w := 1; w <= api.MaxSide; w++ {
		for h := 1; h <= api.MaxSide; h++ {
			n := count(t, rectangle(w, h))
			if n > 0 != (w*h%2 == 0) {
				t.Errorf("%d by %d: %d", w, h, n)
			}
		}
	}
}
