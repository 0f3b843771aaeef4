package weight_test

// P5.2 (Signed), P5.3 (Whole, IsWhole) and P5.8 (signed).

import (
	"math/rand"
	"slices"
	"testing"

	"encaustic/api"
	"encaustic/weight"
)

// TestSignedExamples has problems with just one result.
func TestSignedExamples(t *testing.T) {
	for _, c := range []struct {
		p    problem
		want []int
	}{
		{problem{[]string{"#"}, []api.Tile{tile(0, 0)}}, []int{1}},
		{problem{rectangle(3, 3), []api.Tile{tile(0, 0, 1, 0, 2, 0)}}, []int{1, 1, 1}},
		{problem{[]string{"####"}, dominoes()}, []int{1, 0, 1}},
		{problem{[]string{".##", "###"}, []api.Tile{tile(0, 0, 1, 0), tile(0, 0, 1, 0, 0, 1)}}, []int{2, -1, 1, 1}},
		{problem{[]string{"###", ".##"}, []api.Tile{tile(0, 0, 1, 0), tile(0, 0, 0, 1, 1, 1)}}, []int{1, 1, -1, 2}},
		{problem{[]string{".#", "##", "##"}, []api.Tile{tile(0, 0, -1, 1, 0, 2), tile(0, 0, 0, 1, -1, 2, 0, 2), tile(0, 0, 0, 2)}}, []int{1, 1, -1}},
	} {
		if got, e := weight.Signed(c.p.r, c.p.tiles); !slices.Equal(got, c.want) || e != api.OK {
			t.Errorf("Signed(%q, %v) = %v, %d, want %v", c.p.r, c.p.tiles, got, e, c.want)
		}
	}
}

// TestNoSignedTiling has floors that are refused for different reasons: too few puts, colours, and rests of a division.
func TestNoSignedTiling(t *testing.T) {
	for _, p := range []problem{
		{[]string{"#"}, dominoes()},
		{[]string{"##.#"}, dominoes()},
		{[]string{"##.", "###", ".##"}, dominoes()},
		{rectangle(3, 3), dominoes()},
		{rectangle(2, 2), corners()},
		{[]string{"##", "#."}, pairs()},
		{rectangle(4, 4), []api.Tile{tile(0, 0, 1, 0, 2, 0), tile(0, 0, 0, 1, 0, 2)}},
		{rectangle(4, 4), []api.Tile{tile(0, 0, 4, 0)}},
	} {
		if got, e := weight.Signed(p.r, p.tiles); len(got) != 0 || e != api.ErrPlan {
			t.Errorf("Signed(%q, %v) = %v, %d, want ErrPlan", p.r, p.tiles, got, e)
		}
		if w, e := weight.Whole(p.r, p.tiles); e != api.OK || !slowIsWhole(p, w) {
			t.Errorf("Whole(%q, %v) = %v, %d", p.r, p.tiles, w, e)
		}
	}
}

func TestHardProblems(t *testing.T) {
	for i, p := range hardProblems() {
		want := api.OK
		if i >= 6 {
			want = api.ErrPlan
		}
		if c, e := weight.Signed(p.r, p.tiles); e != want || e == api.OK && !fills(p, c, 1) {
			t.Errorf("Signed(%q, %v) = %v, %d, want %d", p.r, p.tiles, c, e, want)
		}
	}
}

// TestSignedOrWhole: just one of them succeeds, and the right one, and what it returns shows it.
func TestSignedOrWhole(t *testing.T) {
	for _, p := range allProblems() {
		c, e := weight.Signed(p.r, p.tiles)
		w, f := weight.Whole(p.r, p.tiles)
		bounded := func(n int) bool { return -1<<50 <= n && n <= 1<<50 }
		switch {
		case e == api.OK && f == api.ErrPlan:
			if !fills(p, c, 1) || !isSigned(p) || len(w.Num) != 0 || w.Den != 0 {
				t.Errorf("%q, %v: Signed %v, Whole %v", p.r, p.tiles, c, w)
			}
			if slices.ContainsFunc(c, func(n int) bool { return !bounded(n) }) {
				t.Errorf("%q, %v: Signed %v", p.r, p.tiles, c)
			}
		case e == api.ErrPlan && f == api.OK:
			if !slowIsWhole(p, w) || !isWhole(t, p, w) || isSigned(p) || tilings(t, p) != 0 || len(c) != 0 {
				t.Errorf("%q, %v: Signed %v, Whole %v", p.r, p.tiles, c, w)
			}
		default:
			t.Errorf("%q, %v: Signed %v, %d, Whole %v, %d", p.r, p.tiles, c, e, w, f)
		}
	}
}

func weights(den int, numbers ...int) api.Weights {
	return api.Weights{Num: numbers, Den: den}
}

func TestIsWholeExamples(t *testing.T) {
	steps := problem{[]string{"##.", "###", ".##"}, dominoes()}
	square, two := problem{rectangle(2, 2), corners()}, problem{rectangle(2, 1), dominoes()}
	lone := problem{[]string{".#"}, dominoes()}
	for _, c := range []struct {
		p    problem
		w    api.Weights
		want bool
	}{
		{steps, weights(2, 1, -1, -1, 1, -1, -1, 1), true},
		{steps, weights(2, 1, 1, 1, 1, 1, 1, 1), true},
		{steps, weights(3, 1, -1, -1, 1, -1, -1, 1), true},
		{steps, weights(1, 1, -1, -1, 1, -1, -1, 1), false},
		{steps, weights(2, 1, -1, -1, 1, -1, -1, 2), false},
		{steps, weights(2, 1, -1, -1, 1, -1, -1), false},
		{steps, weights(2, 1, -1, -1, 1, -1, -1, 1, 0), false},
		{square, weights(3, 1, 1, 1, 1), true},
		{square, weights(3, 2, 2, 2, 2), true},
		{square, weights(3, -1, -1, 2, -4), true},
		{square, weights(6, 2, 2, 2, 2), true},
		{square, weights(3, 3, 3, 3, 3), false},
		{square, weights(2, 1, 1, 1, 1), false},
		{square, weights(4, 1, 1, 1, 1), false},
		{square, weights(-3, 1, 1, 1, 1), false},
		{square, weights(0, 1, 1, 1, 1), false},
		{two, weights(2, 1, 1), false},
		{two, weights(2, 1, 0), false},
		{lone, weights(2, 1), true},
		{lone, weights(2, 4), false},
		{lone, weights(1, 1), false},
		{lone, weights(1<<40, 1), true},
		{lone, weights(1<<40, -1<<40+1), true},
		{lone, weights(1<<40, 1<<40), false},
		{lone, weights(1<<40+1, 1), false},
		{lone, weights(3, 1<<40), true},
		{lone, weights(3, -1<<40), true},
		{lone, weights(3, 1<<40+1), false},
		{lone, weights(7, 1<<40+1), false},
		{lone, weights(7, -1<<40-1), false},
		{lone, weights(2, greatest), false},
		{lone, weights(3, least), false},
		{lone, weights(greatest, 1), false},
		{lone, weights(least, 1), false},
		{lone, weights(2), false},
		{lone, api.Weights{}, false},
		{lone, weights(2, make([]int, 100000)...), false},
	} {
		if got := isWhole(t, c.p, c.w); got != c.want {
			t.Errorf("IsWhole(%q, %v, %.60v) = %v", c.p.r, c.p.tiles, c.w, got)
		}
	}
}

// smallNumbers calls f with all lists of numbers between two limits.
func smallNumbers(size, from, to int, f func([]int)) {
	list := make([]int, size)
	var fill func(i int)
	fill = func(i int) {
		if i == size {
			f(list)
			return
		}
		for list[i] = from; list[i] <= to; list[i]++ {
			fill(i + 1)
		}
	}
	fill(0)
}

// TestSmallWholeWeights tries all weights with small numbers: what IsWhole is true of leaves no signed tiling.
func TestSmallWholeWeights(t *testing.T) {
	for _, size := range [][2]int{{2, 2}, {3, 1}, {1, 4}} {
		for _, r := range everyFloor(size[0], size[1]) {
			for _, tiles := range tileLists() {
				p := problem{r, tiles}
				_, e := weight.Signed(r, tiles)
				for den := 1; den <= 4; den++ {
					smallNumbers(len(cellsOf(r)), -1, den, func(list []int) {
						is := isWhole(t, p, weights(den, list...))
						if is != slowIsWhole(p, weights(den, list...)) || is && e != api.ErrPlan {
							t.Errorf("%q, %v: IsWhole(%v, %d) is %v, Signed returns %d", r, tiles, list, den, is, e)
						}
					})
				}
			}
		}
	}
}

// TestIsWholeOfChangedWeights changes weights that refute by whole numbers, and then a little.
func TestIsWholeOfChangedWeights(t *testing.T) {
	random := rand.New(rand.NewSource(4))
	for _, p := range largeProblems(5, 1500) {
		w, e := weight.Whole(p.r, p.tiles)
		if e != api.OK {
			w = weights(1+random.Intn(3), make([]int, len(cellsOf(p.r)))...)
		}
		for i := range w.Num {
			w.Num[i] += w.Den * (random.Intn(7) - 3)
		}
		if is := isWhole(t, p, w); is != slowIsWhole(p, w) || is != (e == api.OK) {
			t.Errorf("IsWhole(%q, %v, %v) = %v", p.r, p.tiles, w, is)
		}
		w.Num[random.Intn(len(w.Num))] += random.Intn(3)
		if is := isWhole(t, p, w); is != slowIsWhole(p, w) {
			t.Errorf("IsWhole(%q, %v, %v) = %v", p.r, p.tiles, w, is)
		}
	}
}
