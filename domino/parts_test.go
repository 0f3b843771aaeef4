package domino_test

// P2.5 (Parts, Holes).

import (
	"reflect"
	"slices"
	"testing"

	"encaustic/api"
	"encaustic/domino"
)

func TestPartsExamples(t *testing.T) {
	for _, c := range []struct {
		r    []string
		want [][]string
	}{
		{[]string{"##.#", "...#"}, [][]string{{"##..", "...."}, {"...#", "...#"}}},
		{[]string{"#.", ".#"}, [][]string{{"#.", ".."}, {"..", ".#"}}},
		{[]string{".#", "#."}, [][]string{{".#", ".."}, {"..", "#."}}},
		{[]string{"..#", "#.#", "###"}, [][]string{{"..#", "#.#", "###"}}},
		{[]string{".#.", "#.#", ".#."}, [][]string{{".#.", "...", "..."}, {"...", "#..", "..."}, {"...", "..#", "..."}, {"...", "...", ".#."}}},
		{[]string{".......#", "#......."}, [][]string{{".......#", "........"}, {"........", "#......."}}},
		{rectangle(8, 8), [][]string{rectangle(8, 8)}},
		{[]string{"#"}, [][]string{{"#"}}},
		{[]string{"."}, nil},
		{blank(8, 8), nil},
	} {
		got, e := domino.Parts(c.r)
		if e != api.OK || len(got) != len(c.want) || len(got) > 0 && !reflect.DeepEqual(got, c.want) {
			t.Errorf("Parts(%q) = %q, %d, want %q", c.r, got, e, c.want)
		}
	}
}

func TestHolesExamples(t *testing.T) {
	for _, c := range []struct {
		r    []string
		want int
	}{
		{[]string{"###", "#.#", "###"}, 1},
		{[]string{"##", "##"}, 0},
		{[]string{"."}, 0},
		{blank(8, 8), 0},
		{[]string{"###", "#.#", "#.#"}, 0},
		{[]string{"###", "#.#", "##."}, 0},
		{[]string{".##", "#.#", "###"}, 0},
		{[]string{".#.", "#.#", ".#."}, 0},
		{[]string{"#####", "#.#.#", "#####"}, 2},
		{[]string{"####", "#.##", "##.#", "####"}, 1},
		{[]string{"#####", "#.###", "###.#", "#####"}, 2},
		{[]string{"#####", "#...#", "#.#.#", "#...#", "#####"}, 1},
		{[]string{"#######", "#.....#", "#.###.#", "#.#.#.#", "#.###.#", "#.....#", "#######"}, 2},
		{[]string{"########", "#......#", "#.####.#", "#.#..#.#", "#.#..#.#", "#.####.#", "#......#", "########"}, 2},
		{[]string{"########", "#.#.#.##", "########", "##.#.#.#", "########", "#.#.#.##", "########", "########"}, 9},
		{[]string{"########", "#.#.#.#.", "########"}, 3},
		{rectangle(8, 8), 0},
	} {
		if got, e := domino.Holes(c.r); got != c.want || e != api.OK {
			t.Errorf("Holes(%q) = %d, %d, want %d", c.r, got, e, c.want)
		}
	}
}

// flood collects all that steps lead to from x, y, with corners too or without.
func flood(places map[api.Cell]bool, x, y int, corners bool) []api.Cell {
	at := api.Cell{X: x, Y: y}
	if !places[at] {
		return nil
	}
	delete(places, at)
	found := []api.Cell{at}
	for dy := -1; dy <= 1; dy++ {
		for dx := -1; dx <= 1; dx++ {
			if corners || dx*dy == 0 {
				found = append(found, flood(places, x+dx, y+dy, corners)...)
			}
		}
	}
	return found
}

// slowHoles floods the plane, as far as it matters.
func slowHoles(r []string) int {
	places := map[api.Cell]bool{}
	for y := -1; y <= len(r); y++ {
		for x := -1; x <= len(r[0]); x++ {
			if !has(r, x, y) {
				places[api.Cell{X: x, Y: y}] = true
			}
		}
	}
	n := -1
	for y := -1; y <= len(r); y++ {
		for x := -1; x <= len(r[0]); x++ {
			if len(flood(places, x, y, true)) > 0 {
				n++
			}
		}
	}
	return n
}

func slowParts(r []string) [][]string {
	places := map[api.Cell]bool{}
	for _, c := range cellsOf(r) {
		places[c] = true
	}
	var list [][]string
	for _, c := range cellsOf(r) {
		if part := flood(places, c.X, c.Y, false); len(part) > 0 {
			list = append(list, changed(blank(len(r[0]), len(r)), '#', part...))
		}
	}
	return list
}

func TestPartsAndHolesByFlooding(t *testing.T) {
	regions := append(allRegions(), everyRegion(3, 5)...)
	for _, r := range append(regions, ringed()...) {
		if got, want := parts(t, r), slowParts(r); !slices.EqualFunc(got, want, slices.Equal[[]string]) {
			t.Errorf("Parts(%q) = %q, want %q", r, got, want)
		}
		if got, want := holes(t, r), slowHoles(r); got != want {
			t.Errorf("Holes(%q) = %d, want %d", r, got, want)
		}
	}
}
