package weight_test

// P5.4 (Shares), P5.5 (Above, IsAbove) and P5.9 (shares).

import (
	"math/rand"
	"reflect"
	"slices"
	"testing"

	"encaustic/api"
	"encaustic/weight"
)

// TestSharesExamples has problems with just one result.
func TestSharesExamples(t *testing.T) {
	for _, c := range []struct {
		p    problem
		want api.Weights
	}{
		{problem{[]string{"#"}, []api.Tile{tile(0, 0)}}, weights(1, 1)},
		{problem{rectangle(3, 3), []api.Tile{tile(0, 0, 1, 0, 2, 0)}}, weights(1, 1, 1, 1)},
		{problem{[]string{"####"}, dominoes()}, weights(1, 1, 0, 1)},
		{problem{rectangle(2, 2), corners()}, weights(3, 1, 1, 1, 1)},
		{problem{[]string{"##", "#."}, pairs()}, weights(2, 1, 1, 1)},
		{problem{[]string{"##.#", "#..#"}, pairs()}, weights(2, 1, 1, 1, 2)},
		{problem{rectangle(3, 2), []api.Tile{tile(0, 0, 0, 1), tile(0, 0, 1, 0, 2, 0, 0, 1)}}, weights(1, 1, 0, 1, 1)},
	} {
		if got, e := weight.Shares(c.p.r, c.p.tiles); !reflect.DeepEqual(got, c.want) || e != api.OK {
			t.Errorf("Shares(%q, %v) = %v, %d, want %v", c.p.r, c.p.tiles, got, e, c.want)
		}
	}
}

// TestNoShares has floors without enough puts, floors with too many cells of one kind, and floors that have signed
// tilings, with coefficients below 0.
func TestNoShares(t *testing.T) {
	for _, c := range []struct {
		p      problem
		signed api.Errno
	}{
		{problem{[]string{"#"}, dominoes()}, api.ErrPlan},
		{problem{[]string{"##.#"}, dominoes()}, api.ErrPlan},
		{problem{[]string{"##.", "###", ".##"}, dominoes()}, api.ErrPlan},
		{problem{rectangle(3, 3), dominoes()}, api.ErrPlan},
		{problem{rectangle(4, 4), []api.Tile{tile(0, 0, 4, 0)}}, api.ErrPlan},
		{problem{[]string{"#.#", "###", "#.#"}, dominoes()}, api.ErrPlan},
		{problem{[]string{".##", "###"}, []api.Tile{tile(0, 0, 1, 0), tile(0, 0, 1, 0, 0, 1)}}, api.OK},
		{problem{[]string{"###", ".##"}, []api.Tile{tile(0, 0, 1, 0), tile(0, 0, 0, 1, 1, 1)}}, api.OK},
	} {
		p := c.p
		if got, e := weight.Shares(p.r, p.tiles); len(got.Num) != 0 || got.Den != 0 || e != api.ErrPlan {
			t.Errorf("Shares(%q, %v) = %v, %d, want ErrPlan", p.r, p.tiles, got, e)
		}
		if w, e := weight.Above(p.r, p.tiles); e != api.OK || !slowIsAbove(p, w) {
			t.Errorf("Above(%q, %v) = %v, %d", p.r, p.tiles, w, e)
		}
		if _, e := weight.Signed(p.r, p.tiles); e != c.signed {
			t.Errorf("Signed(%q, %v): %d, want %d", p.r, p.tiles, e, c.signed)
		}
	}
}

// common is the greatest common divisor of a number above 0 and a list.
func common(n int, list []int) int {
	for _, m := range list {
		for m != 0 {
			n, m = m, n%m
		}
	}
	return max(n, -n)
}

// TestSharesOrAbove: just one of them succeeds, and what it returns shows that the other one cannot.
func TestSharesOrAbove(t *testing.T) {
	kinds := map[[2]api.Errno]int{}
	for _, p := range allProblems() {
		s, e := weight.Shares(p.r, p.tiles)
		w, f := weight.Above(p.r, p.tiles)
		switch {
		case e == api.OK && f == api.ErrPlan:
			if s.Den < 1 || slices.Min(s.Num) < 0 || !fills(p, s.Num, s.Den) || common(s.Den, s.Num) != 1 || len(w.Num) != 0 || w.Den != 0 {
				t.Errorf("%q, %v: Shares %v, Above %v", p.r, p.tiles, s, w)
			}
		case e == api.ErrPlan && f == api.OK:
			if !slowIsAbove(p, w) || !isAbove(t, p, w) || tilings(t, p) != 0 || len(s.Num) != 0 || s.Den != 0 {
				t.Errorf("%q, %v: Shares %v, Above %v", p.r, p.tiles, s, w)
			}
		default:
			t.Errorf("%q, %v: Shares %v, %d, Above %v, %d", p.r, p.tiles, s, e, w, f)
		}
		_, g := weight.Signed(p.r, p.tiles)
		kinds[[2]api.Errno{e, g}]++
	}
	if len(kinds) != 4 {
		t.Errorf("the tests lack problems of some kind: %v", kinds)
	}
}

func TestIsAboveExamples(t *testing.T) {
	steps := problem{[]string{"##.", "###", ".##"}, dominoes()}
	square, lone := problem{rectangle(2, 2), corners()}, problem{[]string{".#"}, dominoes()}
	for _, c := range []struct {
		p    problem
		w    api.Weights
		want bool
	}{
		{steps, weights(1, -1, 1, 1, -1, 1, 1, -1), true},
		{steps, weights(5, -1, 1, 1, -1, 1, 1, -1), true},
		{steps, weights(2, -2, 1, 2, -2, 1, 2, -2), false},
		{steps, weights(2, -1, 1, 1, -1, 1, 0, -1), false},
		{steps, weights(1, -4, 4, 4, -4, 4, 3, -4), true},
		{steps, weights(1, -4, 4, 4, -3, 4, 4, -4), false},
		{steps, weights(1, 1, -1, -1, 1, -1, -1, 1), false},
		{steps, weights(1, -1, 1, 1, -1, 1, 1), false},
		{steps, weights(1, -1, 1, 1, -1, 1, 1, -1, 1), false},
		{square, weights(1, 1, 1, -2, 1), false},
		{square, weights(3, 1, 1, 1, 1), false},
		{square, weights(1, 0, 0, 0, 0), false},
		{square, weights(1, -1, -1, -1, -1), false},
		{lone, weights(1, 1), true},
		{lone, weights(1, 0), false},
		{lone, weights(1, -1), false},
		{lone, weights(0, 1), false},
		{lone, weights(-1, 1), false},
		{lone, weights(-1, -1), false},
		{lone, weights(1<<40, 1<<40), true},
		{lone, weights(1<<40+1, 1), false},
		{lone, weights(1, 1<<40+1), false},
		{lone, weights(1, greatest), false},
		{lone, weights(greatest, 1), false},
		{lone, weights(least, 1), false},
		{lone, weights(1), false},
		{lone, api.Weights{}, false},
		{problem{[]string{"#.#"}, dominoes()}, weights(1, -1<<40, 1<<40), false},
		{problem{[]string{"#.#"}, dominoes()}, weights(1, -1<<40+1, 1<<40), true},
		{problem{[]string{"#.#"}, dominoes()}, weights(1, -1<<40-1, 1<<40), false},
		{problem{[]string{"#.#"}, dominoes()}, weights(1, -1<<40-1, 1<<40+2), false},
		{problem{[]string{"#.#.", ".#.#", "#.#.", ".#.#"}, dominoes()}, weights(1, slices.Repeat([]int{1 << 40}, 8)...), true},
		{lone, weights(2, make([]int, 100000)...), false},
	} {
		if got := isAbove(t, c.p, c.w); got != c.want {
			t.Errorf("IsAbove(%q, %v, %.60v) = %v", c.p.r, c.p.tiles, c.w, got)
		}
	}
}

// TestSmallWeightsAbove tries all weights with small numbers: what IsAbove is true of leaves no shares.
func TestSmallWeightsAbove(t *testing.T) {
	for _, size := range [][2]int{{2, 2}, {3, 1}, {1, 4}} {
		for _, r := range everyFloor(size[0], size[1]) {
			for _, tiles := range tileLists() {
				p := problem{r, tiles}
				_, e := weight.Shares(r, tiles)
				smallNumbers(len(cellsOf(r)), -2, 2, func(list []int) {
					is := isAbove(t, p, weights(3, list...))
					if is != slowIsAbove(p, weights(3, list...)) || is && e != api.ErrPlan {
						t.Errorf("%q, %v: IsAbove(%v) is %v, Shares returns %d", r, tiles, list, is, e)
					}
				})
			}
		}
	}
}

// TestIsAboveOfChangedWeights multiplies weights that refute, and then changes them a little.
func TestIsAboveOfChangedWeights(t *testing.T) {
	random := rand.New(rand.NewSource(6))
	for _, p := range largeProblems(7, 1500) {
		w, e := weight.Above(p.r, p.tiles)
		if e != api.OK {
			continue
		}
		for i := range w.Num {
			w.Num[i] *= 3
		}
		w.Den = 1 + random.Intn(9)
		if !isAbove(t, p, w) || !slowIsAbove(p, w) {
			t.Errorf("IsAbove(%q, %v, %v) is false", p.r, p.tiles, w)
		}
		w.Num[random.Intn(len(w.Num))] += random.Intn(7) - 3
		if is := isAbove(t, p, w); is != slowIsAbove(p, w) {
			t.Errorf("IsAbove(%q, %v, %v) = %v", p.r, p.tiles, w, is)
		}
	}
}
