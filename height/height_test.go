package height_test

// P3.1 (Of, Tiling), P3.2 (Least, Greatest) and P3.7 (Thurston).

import (
	"fmt"
	"math"
	"reflect"
	"slices"
	"testing"

	"encaustic/api"
	"encaustic/height"
)

func TestOfExamples(t *testing.T) {
	known := func(unknown ...int) []bool {
		list := slices.Repeat([]bool{true}, 9)
		for _, i := range unknown {
			list[i] = false
		}
		return list
	}
	for _, c := range []struct {
		r      []string
		tiling []api.Domino
		want   api.Heights
	}{
		{rectangle(2, 2), []api.Domino{across(0, 0), across(0, 1)}, api.Heights{W: 2, H: 2, Values: []int{0, -1, 0, 1, 2, 1, 0, -1, 0}, Known: known()}},
		{rectangle(2, 2), []api.Domino{down(0, 0), down(1, 0)}, api.Heights{W: 2, H: 2, Values: []int{0, -1, 0, 1, -2, 1, 0, -1, 0}, Known: known()}},
		{rectangle(2, 1), []api.Domino{across(0, 0)}, api.Heights{W: 2, H: 1, Values: []int{0, -1, 0, 1, 2, 1}, Known: known()[:6]}},
		{[]string{".#", ".#"}, []api.Domino{down(1, 0)}, api.Heights{W: 2, H: 2, Values: []int{0, 0, 1, 0, -1, 2, 0, 0, 1}, Known: known(0, 3, 6)}},
		{[]string{"..", "##"}, []api.Domino{across(0, 1)}, api.Heights{W: 2, H: 2, Values: []int{0, 0, 0, 0, 1, 0, -1, -2, -1}, Known: known(0, 1, 2)}},
	} {
		if got, e := height.Of(c.r, c.tiling); !reflect.DeepEqual(got, c.want) || e != api.OK {
			t.Errorf("Of(%q, %v) = %v, %d, want %v", c.r, c.tiling, got, e, c.want)
		}
		if got, e := height.Tiling(c.r, c.want); !slices.Equal(got, c.tiling) || e != api.OK {
			t.Errorf("Tiling(%q, %v) = %v, %d, want %v", c.r, c.want, got, e, c.tiling)
		}
	}
}

// checkHeights compares Of with the slow way, and Tiling takes the result back.
func checkHeights(t *testing.T, r []string, tiling []api.Domino) api.Heights {
	t.Helper()
	want := shown(r, slowHeights(t, r, tiling))
	got, e := height.Of(r, tiling)
	if !reflect.DeepEqual(got, want) || e != api.OK {
		t.Errorf("Of(%q, %v) = %v, %d, want %v", r, tiling, got, e, want)
	}
	if back, e := height.Tiling(r, got); !slices.Equal(back, tiling) || e != api.OK {
		t.Errorf("Tiling(%q, %v) = %v, %d, want %v", r, got, back, e, tiling)
	}
	return got
}

func TestHeightsOfEveryTiling(t *testing.T) {
	for _, r := range smallRegions() {
		seen := map[string]bool{}
		for _, tiling := range tilings(r) {
			text := fmt.Sprint(checkHeights(t, r, tiling))
			if seen[text] {
				t.Errorf("%q: two tilings have the heights %s", r, text)
			}
			seen[text] = true
		}
	}
}

func TestHeightsOfLargeTilings(t *testing.T) {
	for _, r := range largeRegions() {
		for _, tiling := range someTilings(t, r, 20) {
			checkHeights(t, r, tiling)
		}
	}
}

// TestTilingOfOtherHeights changes heights at one point: that leads to the heights of another tiling, or of none.
func TestTilingOfOtherHeights(t *testing.T) {
	changes := []int{-1 << 62, -8, -5, -4, -3, -2, -1, 1, 2, 3, 4, 5, 8, 1 << 32, math.MaxInt, math.MinInt}
	for n, r := range smallRegions() {
		if n%9 != 0 && n > 60 {
			continue
		}
		l := latticeOf(t, r)
		ofHeights := map[string][]api.Domino{}
		for i, h := range l.heights {
			ofHeights[fmt.Sprint(h)] = l.tilings[i]
		}
		other := l.heights[0]
		for i := range other.Values {
			for _, change := range changes {
				other.Values[i] += change
				checkTiling(t, r, other, ofHeights[fmt.Sprint(other)])
				other.Values[i] -= change
			}
			other.Known[i] = !other.Known[i]
			checkTiling(t, r, other, nil)
			other.Known[i] = !other.Known[i]
		}
	}
}

// checkTiling wants an error if there is no tiling.
func checkTiling(t *testing.T, r []string, h api.Heights, want []api.Domino) {
	t.Helper()
	code := api.OK
	if want == nil {
		code = api.ErrPlan
	}
	if got, e := height.Tiling(r, h); !slices.Equal(got, want) || e != code {
		t.Errorf("Tiling(%q, %v) = %v, %d, want %v, %d", r, h, got, e, want, code)
	}
}

func TestTilingOfNoHeights(t *testing.T) {
	r := rectangle(2, 2)
	all := func(known bool) []bool { return slices.Repeat([]bool{known}, 9) }
	flat := []int{0, -1, 0, 1, 2, 1, 0, -1, 0}
	lifted := func(by int) []int {
		list := slices.Clone(flat)
		for i := range list {
			list[i] += by
		}
		return list
	}
	for _, h := range []api.Heights{
		{},
		{W: 2, H: 2},
		{W: 2, H: 2, Values: flat},
		{W: 2, H: 2, Known: all(true)},
		{W: 2, H: 2, Values: flat, Known: all(false)},
		{W: 2, H: 2, Values: flat, Known: all(true)[:8]},
		{W: 2, H: 2, Values: flat, Known: append(all(true), true)},
		{W: 2, H: 2, Values: flat[:8], Known: all(true)},
		{W: 2, H: 2, Values: append(slices.Clone(flat), 0), Known: all(true)},
		{W: 2, H: 2, Values: append(slices.Clone(flat), 0), Known: append(all(true), true)},
		{W: 2, H: 2, Values: make([]int, 9), Known: all(true)},
		{W: 2, H: 2, Values: make([]int, 100000), Known: make([]bool, 100000)},
		{W: 0, H: 0, Values: flat, Known: all(true)},
		{W: 2, H: 3, Values: flat, Known: all(true)},
		{W: 3, H: 2, Values: flat, Known: all(true)},
		{W: -2, H: -2, Values: flat, Known: all(true)},
		{W: math.MaxInt, H: math.MinInt, Values: flat, Known: all(true)},
		{W: 2, H: 2, Values: lifted(1), Known: all(true)},
		{W: 2, H: 2, Values: lifted(4), Known: all(true)},
		{W: 2, H: 2, Values: lifted(-4), Known: all(true)},
		{W: 2, H: 2, Values: lifted(math.MaxInt), Known: all(true)},
		{W: 2, H: 2, Values: lifted(math.MinInt), Known: all(true)},
		{W: 2, H: 2, Values: []int{0, 1, 0, -1, -2, -1, 0, 1, 0}, Known: all(true)},
		{W: 2, H: 2, Values: []int{0, -1, 0, 1, 6, 1, 0, -1, 0}, Known: all(true)},
	} {
		checkTiling(t, r, h, nil)
	}
	checkTiling(t, r, api.Heights{W: 2, H: 2, Values: flat, Known: all(true)}, []api.Domino{across(0, 0), across(0, 1)})
}

func TestLeastAndGreatestExamples(t *testing.T) {
	for _, c := range []struct {
		r               []string
		least, greatest []api.Domino
	}{
		{rectangle(2, 2), []api.Domino{down(0, 0), down(1, 0)}, []api.Domino{across(0, 0), across(0, 1)}},
		{rectangle(2, 1), []api.Domino{across(0, 0)}, []api.Domino{across(0, 0)}},
		{rectangle(1, 2), []api.Domino{down(0, 0)}, []api.Domino{down(0, 0)}},
		{[]string{".##", ".##"}, []api.Domino{across(1, 0), across(1, 1)}, []api.Domino{down(1, 0), down(2, 0)}},
		{rectangle(3, 2), []api.Domino{down(0, 0), across(1, 0), across(1, 1)}, []api.Domino{across(0, 0), down(2, 0), across(0, 1)}},
	} {
		if got, e := height.Least(c.r); !slices.Equal(got, c.least) || e != api.OK {
			t.Errorf("Least(%q) = %v, %d, want %v", c.r, got, e, c.least)
		}
		if got, e := height.Greatest(c.r); !slices.Equal(got, c.greatest) || e != api.OK {
			t.Errorf("Greatest(%q) = %v, %d, want %v", c.r, got, e, c.greatest)
		}
	}
}

// ends returns the results of Least and Greatest.
func ends(t *testing.T, r []string) ([]api.Domino, []api.Domino) {
	t.Helper()
	low, e := height.Least(r)
	high, f := height.Greatest(r)
	if e != api.OK || f != api.OK {
		t.Fatalf("%q: errors %d, %d", r, e, f)
	}
	return low, high
}

func TestLeastAndGreatestOfAllTilings(t *testing.T) {
	for _, r := range smallRegions() {
		l := latticeOf(t, r)
		low, high := ends(t, r)
		lowest := l.extreme(t, isBelow)
		highest := l.extreme(t, func(a, b api.Heights) bool { return isBelow(b, a) })
		if !slices.Equal(low, l.tilings[lowest]) || !slices.Equal(high, l.tilings[highest]) {
			t.Errorf("%q: Least %v, Greatest %v, want %v, %v", r, low, high, l.tilings[lowest], l.tilings[highest])
		}
	}
}

// bounds relaxes: a height grows by at most 1, or falls by at most 3, along an edge with a black cell on the left hand,
// and at the rim of the region it grows by just 1. So heights are at most (or, with sign -1, at least) what comes out.
func bounds(r []string, sign int) map[api.Cell]int {
	heights := map[api.Cell]int{cellsOf(r)[0]: 0}
	for changed := true; changed; {
		changed = false
		for p := range heights {
			for _, s := range sides(r, p) {
				step := growth(s)
				if has(r, s.left) && has(r, s.right) && step == -sign {
					step = 3 * sign
				}
				next := heights[p] + step
				if known, ok := heights[s.to]; !ok || next*sign < known*sign {
					heights[s.to] = next
					changed = true
				}
			}
			if changed {
				break
			}
		}
	}
	return heights
}

func TestLeastAndGreatestAreAtTheBounds(t *testing.T) {
	for _, r := range largeRegions() {
		low, high := ends(t, r)
		if h := checkHeights(t, r, low); !reflect.DeepEqual(h, shown(r, bounds(r, -1))) {
			t.Errorf("%q: Least has the heights %v", r, h)
		}
		if h := checkHeights(t, r, high); !reflect.DeepEqual(h, shown(r, bounds(r, 1))) {
			t.Errorf("%q: Greatest has the heights %v", r, h)
		}
	}
}

func TestNoTiling(t *testing.T) {
	for _, r := range [][]string{
		{"#"},
		{"###"},
		{".#."},
		{"#.#", "###", "#.#"},
		{"##.", "###", ".##"},
		{"#...", "####", "#..#", "...#", "..##"},
		{".#....", "###...", ".#####", "...###", "....#."},
		rectangle(3, 3),
		rectangle(7, 7),
	} {
		low, e := height.Least(r)
		high, f := height.Greatest(r)
		rank, g := height.Rank(r)
		if len(low) != 0 || e != api.ErrPlan || len(high) != 0 || f != api.ErrPlan || rank != 0 || g != api.ErrPlan {
			t.Errorf("%q: Least %v, %d, Greatest %v, %d, Rank %d, %d", r, low, e, high, f, rank, g)
		}
	}
}
