package height_test

// P3.4 (Flips, Flip), P3.5 (Distance, Path), P3.6 (Rank), P3.9 (flips), P3.10 (connected) and P3.11 (valuation).

import (
	"math"
	"slices"
	"testing"

	"encaustic/api"
	"encaustic/height"
)

func TestFlipsExamples(t *testing.T) {
	middle := []api.Domino{down(0, 0), across(1, 0), down(3, 0), across(1, 1)}
	for _, c := range []struct {
		r      []string
		tiling []api.Domino
		want   []api.Cell
	}{
		{rectangle(2, 2), []api.Domino{across(0, 0), across(0, 1)}, []api.Cell{{X: 0, Y: 0}}},
		{rectangle(2, 2), []api.Domino{down(0, 0), down(1, 0)}, []api.Cell{{X: 0, Y: 0}}},
		{rectangle(3, 2), []api.Domino{down(0, 0), down(1, 0), down(2, 0)}, []api.Cell{{X: 0, Y: 0}, {X: 1, Y: 0}}},
		{rectangle(2, 3), []api.Domino{across(0, 0), across(0, 1), across(0, 2)}, []api.Cell{{X: 0, Y: 0}, {X: 0, Y: 1}}},
		{rectangle(4, 2), middle, []api.Cell{{X: 1, Y: 0}}},
		{[]string{".##.", "####", ".##."}, []api.Domino{across(1, 0), across(0, 1), across(2, 1), across(1, 2)}, nil},
		{[]string{".##.", "####", "####", ".##."}, []api.Domino{across(1, 0), down(0, 1), across(1, 1), down(3, 1), across(1, 2), across(1, 3)},
			[]api.Cell{{X: 1, Y: 0}, {X: 1, Y: 1}, {X: 1, Y: 2}}},
		{[]string{"..##", "####"}, []api.Domino{across(2, 0), across(0, 1), across(2, 1)}, []api.Cell{{X: 2, Y: 0}}},
		{rectangle(2, 1), []api.Domino{across(0, 0)}, nil},
	} {
		if got, e := height.Flips(c.r, c.tiling); !slices.Equal(got, c.want) || e != api.OK {
			t.Errorf("Flips(%q, %v) = %v, %d, want %v", c.r, c.tiling, got, e, c.want)
		}
	}
	want := []api.Domino{down(0, 0), down(1, 0), down(2, 0), down(3, 0)}
	if got, e := height.Flip(rectangle(4, 2), middle, 1, 0); !slices.Equal(got, want) || e != api.OK {
		t.Error(got, e)
	}
}

// checkFlips flips wherever that can be done, and there again; elsewhere it wants an error.
func checkFlips(t *testing.T, r []string, tiling []api.Domino) {
	t.Helper()
	cells, e := height.Flips(r, tiling)
	want := squares(tiling)
	if !slices.Equal(cells, want) || e != api.OK {
		t.Errorf("Flips(%q, %v) = %v, %d, want %v", r, tiling, cells, e, want)
	}
	before := shown(r, slowHeights(t, r, tiling))
	for _, c := range grid(-2, -2, len(r[0])+1, len(r)+1) {
		next, e := height.Flip(r, tiling, c.X, c.Y)
		if !slices.Contains(want, c) {
			if len(next) != 0 || e != api.ErrNone {
				t.Errorf("Flip(%q, %v, %v) = %v, %d, want ErrNone", r, tiling, c, next, e)
			}
			continue
		}
		if e != api.OK || !slices.Equal(next, turned(tiling, c)) {
			t.Fatalf("Flip(%q, %v, %v) = %v, %d", r, tiling, c, next, e)
		}
		if back, e := height.Flip(r, next, c.X, c.Y); !slices.Equal(back, tiling) || e != api.OK {
			t.Errorf("%q, %v: twice at %v: %v, %d", r, tiling, c, back, e)
		}
		checkOneChange(t, before, shown(r, slowHeights(t, r, next)), c)
	}
}

// checkOneChange wants just the height in the middle of a square to change, by 4.
func checkOneChange(t *testing.T, before, after api.Heights, c api.Cell) {
	t.Helper()
	middle := (c.Y+1)*(before.W+1) + c.X + 1
	change := after.Values[middle] - before.Values[middle]
	if apart(before, after) != 4 || change != 4 && change != -4 {
		t.Errorf("a flip at %v makes %v of %v", c, after, before)
	}
}

func TestFlipsOfEveryTiling(t *testing.T) {
	for _, l := range fewTilings(t) {
		for _, tiling := range l.tilings {
			checkFlips(t, l.r, tiling)
		}
	}
}

func TestFlipsOfLargeTilings(t *testing.T) {
	for _, r := range largeRegions() {
		for _, tiling := range someTilings(t, r, 3) {
			checkFlips(t, r, tiling)
		}
	}
}

func TestNoSquareFarAway(t *testing.T) {
	flat := []api.Domino{across(0, 0), across(0, 1)}
	numbers := []int{math.MinInt, math.MinInt + 1, -1 << 32, -1, 0, 1, 2, 1 << 32, math.MaxInt - 1, math.MaxInt}
	for _, x := range numbers {
		for _, y := range numbers {
			if got, e := height.Flip(rectangle(2, 2), flat, x, y); (x != 0 || y != 0) && (len(got) != 0 || e != api.ErrNone) {
				t.Errorf("%d, %d: %v, %d, want ErrNone", x, y, got, e)
			}
		}
	}
}

// checkPath follows a path by slow flips.
func checkPath(t *testing.T, r []string, from, to []api.Domino, want int) {
	t.Helper()
	if n, e := height.Distance(r, from, to); n != want || e != api.OK {
		t.Errorf("Distance(%q, %v, %v) = %d, %d, want %d", r, from, to, n, e, want)
	}
	path, e := height.Path(r, from, to)
	if len(path) != want || e != api.OK {
		t.Errorf("Path(%q, %v, %v) = %v, %d, want %d flips", r, from, to, path, e, want)
	}
	at := from
	for _, c := range path {
		if !slices.Contains(squares(at), c) {
			t.Fatalf("%q: no flip of %v at %v", r, at, c)
		}
		at = turned(at, c)
	}
	if !slices.Equal(at, to) {
		t.Errorf("%q: the path from %v to %v leads to %v", r, from, to, at)
	}
}

// TestDistanceIsTheLeast goes through all flips of all tilings; all tilings are reached.
func TestDistanceIsTheLeast(t *testing.T) {
	for _, l := range fewTilings(t) {
		lowest := l.extreme(t, isBelow)
		highest := l.extreme(t, func(a, b api.Heights) bool { return isBelow(b, a) })
		for i, from := range l.tilings {
			far := l.flipsFrom(t, i)
			for j, to := range l.tilings {
				checkPath(t, l.r, from, to, far[j])
				if sum := apart(l.heights[i], l.heights[j]); sum != 4*far[j] {
					t.Errorf("%q: %v and %v differ by %d, and are %d flips apart", l.r, from, to, sum, far[j])
				}
			}
			if rank, e := height.Rank(l.r); i == lowest && rank != far[highest] || e != api.OK {
				t.Errorf("Rank(%q) = %d, %d, want %d", l.r, rank, e, far[highest])
			}
		}
	}
}

func TestDistancesOfLargeTilings(t *testing.T) {
	for _, r := range largeRegions() {
		low, high := ends(t, r)
		list := append(someTilings(t, r, 4), low, high)
		for _, a := range list {
			for _, b := range list {
				sum := apart(shown(r, slowHeights(t, r, a)), shown(r, slowHeights(t, r, b)))
				checkPath(t, r, a, b, sum/4)
				checkValuation(t, r, low, a, b)
			}
			checkRank(t, r, low, a, high)
		}
	}
}

func distance(t *testing.T, r []string, a, b []api.Domino) int {
	t.Helper()
	n, e := height.Distance(r, a, b)
	if e != api.OK {
		t.Fatalf("%q, %v, %v: error %d", r, a, b, e)
	}
	return n
}

// checkRank wants the ways from the least one to a and on to the greatest one to be as long as Rank.
func checkRank(t *testing.T, r []string, low, a, high []api.Domino) {
	t.Helper()
	up, on := distance(t, r, low, a), distance(t, r, a, high)
	if rank, e := height.Rank(r); rank != up+on || e != api.OK {
		t.Errorf("Rank(%q) = %d, %d, by %v %d and %d", r, rank, e, a, up, on)
	}
}

func checkValuation(t *testing.T, r []string, low, a, b []api.Domino) {
	t.Helper()
	meet, _ := height.Meet(r, a, b)
	join, _ := height.Join(r, a, b)
	both := distance(t, r, low, meet) + distance(t, r, low, join)
	if sum := distance(t, r, low, a) + distance(t, r, low, b); both != sum {
		t.Errorf("%q: %v, %v: %d and %d", r, a, b, both, sum)
	}
}

func TestValuationOfAllTilings(t *testing.T) {
	for i, l := range fewTilings(t) {
		if i%3 != 0 {
			continue
		}
		low, high := ends(t, l.r)
		for _, a := range l.tilings {
			checkRank(t, l.r, low, a, high)
			for _, b := range l.tilings {
				checkValuation(t, l.r, low, a, b)
			}
		}
	}
}

// TestEveryTilingHasFlips: one that lowers a height, but for the least one, and one that raises one, but for the
// greatest one.
func TestEveryTilingHasFlips(t *testing.T) {
	for _, r := range smallRegions() {
		low, high := ends(t, r)
		for _, tiling := range tilings(r) {
			lowers, raises := false, false
			cells, e := height.Flips(r, tiling)
			for _, c := range cells {
				next, _ := height.Flip(r, tiling, c.X, c.Y)
				up, _ := height.Below(r, tiling, next)
				raises, lowers = raises || up, lowers || !up
			}
			if e != api.OK || lowers == slices.Equal(tiling, low) || raises == slices.Equal(tiling, high) {
				t.Errorf("%q, %v: lowers %v, raises %v", r, tiling, lowers, raises)
			}
		}
	}
}

// TestRankExamples: the rank of an Aztec diamond of n times two rows is the sum of the squares of the numbers up to n.
func TestRankExamples(t *testing.T) {
	for _, c := range []struct {
		r    []string
		want int
	}{
		{rectangle(2, 1), 0},
		{rectangle(2, 2), 1},
		{rectangle(3, 2), 2},
		{rectangle(2, 8), 7},
		{[]string{".##.", "####", "####", ".##."}, 5},
		{diamond(), 30},
		{[]string{"########", ".......#", "########", "#.......", "########"}, 0},
	} {
		if got, e := height.Rank(c.r); got != c.want || e != api.OK {
			t.Errorf("Rank(%q) = %d, %d, want %d", c.r, got, e, c.want)
		}
	}
}
