package pattern_test

// P6.1 (Lattice), P6.2 (Symmetries), P6.7 (a group): all translations and symmetries are found by trying every move.

import (
	"slices"
	"testing"

	"encaustic/api"
	"encaustic/pattern"
)

func TestLatticeExamples(t *testing.T) {
	for _, c := range []struct {
		p    []string
		want api.Grid
	}{
		{[]string{"a"}, api.Grid{A: 1, D: 1}},
		{[]string{"dd"}, api.Grid{A: 1, D: 1}},
		{[]string{"cccccc", "cccccc", "cccccc", "cccccc", "cccccc", "cccccc"}, api.Grid{A: 1, D: 1}},
		{[]string{"ab"}, api.Grid{A: 2, D: 1}},
		{[]string{"a", "b"}, api.Grid{A: 1, D: 2}},
		{[]string{"ab", "ba"}, api.Grid{A: 1, B: 1, D: 2}},
		{[]string{"ab", "cd"}, api.Grid{A: 2, D: 2}},
		{[]string{"abc"}, api.Grid{A: 3, D: 1}},
		{[]string{"abc", "cab", "bca"}, api.Grid{A: 1, B: 1, D: 3}},
		{[]string{"abc", "bca", "cab"}, api.Grid{A: 1, B: 2, D: 3}},
		{[]string{"abab", "abab"}, api.Grid{A: 2, D: 1}},
		{[]string{"abb", "bab", "bba"}, api.Grid{A: 1, B: 1, D: 3}},
		{[]string{"abbb", "bbbb", "bbab", "bbbb"}, api.Grid{A: 2, B: 2, D: 4}},
		{[]string{"abcc", "ccab"}, api.Grid{A: 2, B: 1, D: 2}},
		{[]string{"abbbb", "bbabb", "bbbba", "babbb", "bbbab"}, api.Grid{A: 1, B: 3, D: 5}},
		{[]string{"aabbcc", "ccaabb", "bbccaa"}, api.Grid{A: 2, B: 1, D: 3}},
		{[]string{"abbbbb", "bbbbbb", "bbabbb", "bbbbbb", "bbbbab", "bbbbbb"}, api.Grid{A: 2, B: 2, D: 6}},
		{aperiodic(6, 6), api.Grid{A: 6, D: 6}},
		{aperiodic(6, 1), api.Grid{A: 6, D: 1}},
		{aperiodic(1, 6), api.Grid{A: 1, D: 6}},
		{aperiodic(5, 6), api.Grid{A: 5, D: 6}},
	} {
		if got, e := pattern.Lattice(c.p); got != c.want || e != api.OK {
			t.Errorf("%q: Lattice is %v, %d, want %v", c.p, got, e, c.want)
		}
	}
}

func TestLatticeHasAllTranslations(t *testing.T) {
	for _, p := range manyPatterns() {
		g, e := pattern.Lattice(p)
		if g.A <= 0 || g.D <= 0 || g.B < 0 || g.B >= g.D || e != api.OK {
			t.Fatalf("%q: Lattice is %v, %d", p, g, e)
		}
		k := know(p)
		for x := -7; x <= 7; x++ {
			for y := -7; y <= 7; y++ {
				if is := k.has(0, x, y); is != inGrid(g, x, y) {
					t.Errorf("%q: the lattice is %v, and of %d, %d it is %t that it is a symmetry", p, g, x, y, is)
				}
			}
		}
	}
}

func TestSymmetriesExamples(t *testing.T) {
	for _, c := range []struct {
		p    []string
		want []api.Move
	}{
		{[]string{"a"}, kinds()},
		{[]string{"ab"}, []api.Move{move(0, 0, 0), move(2, 0, 0), move(4, 0, 0), move(5, 0, 0)}},
		{[]string{"aabb"}, []api.Move{move(0, 0, 0), move(2, 1, 0), move(4, 0, 0), move(5, 1, 0)}},
		{[]string{"aab", "bcc"}, []api.Move{move(0, 0, 0), move(4, 0, 0)}},
		{[]string{"aab", "bcc", "ddd"}, []api.Move{move(0, 0, 0)}},
		{[]string{"abc"}, []api.Move{move(0, 0, 0), move(4, 0, 0)}},
		{[]string{"abc", "cab", "bca"}, []api.Move{move(0, 0, 0), move(7, 0, 0)}},
		{[]string{"ab", "ba"}, kinds()},
		{[]string{"ab", "cd"}, []api.Move{move(0, 0, 0), move(2, 0, 0), move(4, 0, 0), move(5, 0, 0)}},
		{[]string{"ab", "ac"}, []api.Move{move(0, 0, 0), move(2, 0, 0), move(4, 0, 0), move(5, 0, 0)}},
		{[]string{"ab", "bc"}, kinds()},
		{[]string{"abc", "bbd", "cda"}, []api.Move{move(0, 0, 0), move(6, 0, 0)}},
		{aperiodic(6, 6), []api.Move{move(0, 0, 0)}},
	} {
		if got, e := pattern.Symmetries(c.p); !slices.Equal(got, c.want) || e != api.OK {
			t.Errorf("%q: Symmetries are %v, %d, want %v", c.p, got, e, c.want)
		}
	}
}

// slowSymmetries are all symmetries with E and F inside the lattice's period, in the order of the chapter.
func slowSymmetries(k *known, g api.Grid) []api.Move {
	var list []api.Move
	for kind := range 8 {
		for e := range g.A {
			for f := range g.D {
				if k.has(kind, e, f) {
					list = append(list, move(kind, e, f))
				}
			}
		}
	}
	return list
}

// TestSymmetriesHaveEveryClass tries every move, and looks for the one of its class.
func TestSymmetriesHaveEveryClass(t *testing.T) {
	for _, p := range manyPatterns() {
		g, _ := pattern.Lattice(p)
		list, e := pattern.Symmetries(p)
		k := know(p)
		if want := slowSymmetries(k, g); !slices.Equal(list, want) || e != api.OK {
			t.Fatalf("%q: Symmetries are %v, %d, want %v", p, list, e, want)
		}
		k.each(-6, 7, func(kind int, m api.Move) {
			n := 0
			for _, own := range list {
				if own.A == m.A && own.B == m.B && own.C == m.C && own.D == m.D && inGrid(g, m.E-own.E, m.F-own.F) {
					n++
				}
			}
			if n != 1 {
				t.Errorf("%q: %v is in the classes of %d of %v", p, m, n, list)
			}
		})
	}
}

// TestSymmetriesAreGroup: of any two the product is a symmetry, and one of them undoes each.
func TestSymmetriesAreGroup(t *testing.T) {
	for _, p := range manyPatterns() {
		g, _ := pattern.Lattice(p)
		list, e := pattern.Symmetries(p)
		must(t, e)
		isIn := func(m api.Move) bool {
			return slices.ContainsFunc(list, func(own api.Move) bool {
				e, f := m.E-own.E, m.F-own.F
				own.E, own.F = m.E, m.F
				return own == m && inGrid(g, e, f)
			})
		}
		for _, a := range list {
			undone := 0
			for _, b := range list {
				both := pattern.Then(a, b)
				if !isIn(both) {
					t.Errorf("%q: %v and then %v is %v, which is no symmetry", p, a, b, both)
				}
				if both.A == 1 && both.D == 1 && inGrid(g, both.E, both.F) {
					undone++
				}
			}
			if undone != 1 {
				t.Errorf("%q: %d symmetries undo %v", p, undone, a)
			}
		}
	}
}
