package height_test

// P3.3 (Meet, Join, Below) and P3.8 (lattice).

import (
	"reflect"
	"slices"
	"testing"

	"encaustic/api"
	"encaustic/height"
)

func TestLatticeExamples(t *testing.T) {
	r := rectangle(4, 2)
	left := []api.Domino{across(0, 0), down(2, 0), down(3, 0), across(0, 1)}
	right := []api.Domino{down(0, 0), down(1, 0), across(2, 0), across(2, 1)}
	flat := []api.Domino{across(0, 0), across(2, 0), across(0, 1), across(2, 1)}
	upright := []api.Domino{down(0, 0), down(1, 0), down(2, 0), down(3, 0)}
	middle := []api.Domino{down(0, 0), across(1, 0), down(3, 0), across(1, 1)}
	for _, c := range []struct{ s, t, meet, join []api.Domino }{
		{left, right, upright, flat},
		{flat, upright, upright, flat},
		{middle, upright, middle, upright},
		{left, middle, middle, left},
		{left, flat, left, flat},
		{left, left, left, left},
	} {
		if got, e := height.Meet(r, c.s, c.t); !slices.Equal(got, c.meet) || e != api.OK {
			t.Errorf("Meet(%v, %v) = %v, %d, want %v", c.s, c.t, got, e, c.meet)
		}
		if got, e := height.Join(r, c.s, c.t); !slices.Equal(got, c.join) || e != api.OK {
			t.Errorf("Join(%v, %v) = %v, %d, want %v", c.s, c.t, got, e, c.join)
		}
		if got, e := height.Below(r, c.s, c.t); got != slices.Equal(c.meet, c.s) || e != api.OK {
			t.Errorf("Below(%v, %v) = %v, %d", c.s, c.t, got, e)
		}
	}
	if is, e := height.Below(r, right, left); is || e != api.OK {
		t.Error(is, e)
	}
}

// extremes are the lesser ones and the greater ones of two lists of heights.
func extremes(a, b api.Heights) (api.Heights, api.Heights) {
	low, high := a, a
	low.Values, high.Values = slices.Clone(a.Values), slices.Clone(a.Values)
	for i, level := range b.Values {
		low.Values[i], high.Values[i] = min(low.Values[i], level), max(high.Values[i], level)
	}
	return low, high
}

// table has the number of a tiling for each pair of tilings.
type table [][]int

// tables calls Meet and Join for all pairs of tilings, and compares the heights of what comes out.
func tables(t *testing.T, l lattice) (table, table) {
	t.Helper()
	meet, join := make(table, len(l.tilings)), make(table, len(l.tilings))
	for i, a := range l.tilings {
		for j, b := range l.tilings {
			tiling, e := height.Meet(l.r, a, b)
			below := l.find(t, tiling, e)
			tiling, e = height.Join(l.r, a, b)
			above := l.find(t, tiling, e)
			low, high := extremes(l.heights[i], l.heights[j])
			if !reflect.DeepEqual(l.heights[below], low) || !reflect.DeepEqual(l.heights[above], high) {
				t.Errorf("%q, %v, %v: Meet %v, Join %v", l.r, a, b, l.tilings[below], l.tilings[above])
			}
			meet[i], join[i] = append(meet[i], below), append(join[i], above)
		}
	}
	return meet, join
}

// fewTilings are regions of which all pairs of tilings can be gone through.
func fewTilings(t *testing.T) []lattice {
	t.Helper()
	var list []lattice
	for i, r := range smallRegions() {
		if l := latticeOf(t, r); len(l.tilings) <= 40 && (i%4 == 0 || len(r) == 4) {
			list = append(list, l)
		}
	}
	return list
}

func TestLatticeOfAllTilings(t *testing.T) {
	for _, l := range fewTilings(t) {
		meet, join := tables(t, l)
		for i, a := range l.tilings {
			if meet[i][i] != i || join[i][i] != i {
				t.Errorf("%q: %v with itself is not itself", l.r, a)
			}
			for j, b := range l.tilings {
				if meet[i][j] != meet[j][i] || join[i][j] != join[j][i] {
					t.Errorf("%q: %v, %v do not commute", l.r, a, b)
				}
				if meet[i][join[i][j]] != i || join[i][meet[i][j]] != i {
					t.Errorf("%q: %v does not absorb %v", l.r, a, b)
				}
				want := isBelow(l.heights[i], l.heights[j])
				if is, e := height.Below(l.r, a, b); is != want || is != (meet[i][j] == i) || e != api.OK {
					t.Errorf("%q: Below(%v, %v) = %v, %d", l.r, a, b, is, e)
				}
				checkTriples(t, l, meet, join, i, j)
			}
		}
	}
}

// checkTriples checks the laws of three tilings, of which two are given.
func checkTriples(t *testing.T, l lattice, meet, join table, i, j int) {
	t.Helper()
	for k := range l.tilings {
		if meet[meet[i][j]][k] != meet[i][meet[j][k]] || join[join[i][j]][k] != join[i][join[j][k]] {
			t.Errorf("%q: %d, %d, %d are not associative", l.r, i, j, k)
		}
		if meet[i][join[j][k]] != join[meet[i][j]][meet[i][k]] || join[i][meet[j][k]] != meet[join[i][j]][join[i][k]] {
			t.Errorf("%q: %d, %d, %d are not distributive", l.r, i, j, k)
		}
	}
}

func TestLatticeOfLargeTilings(t *testing.T) {
	for _, r := range largeRegions() {
		low, high := ends(t, r)
		list := append(someTilings(t, r, 6), low, high)
		for _, a := range list {
			for _, b := range list {
				checkPair(t, r, a, b)
			}
			checkBetween(t, r, low, a, high)
		}
	}
}

// checkPair compares the heights of Meet and Join, by the slow way, with those of two tilings.
func checkPair(t *testing.T, r []string, a, b []api.Domino) {
	t.Helper()
	meet, e := height.Meet(r, a, b)
	join, f := height.Join(r, a, b)
	if e != api.OK || f != api.OK {
		t.Fatalf("%q, %v, %v: errors %d, %d", r, a, b, e, f)
	}
	of := func(tiling []api.Domino) api.Heights { return shown(r, slowHeights(t, r, tiling)) }
	low, high := extremes(of(a), of(b))
	if !reflect.DeepEqual(of(meet), low) || !reflect.DeepEqual(of(join), high) {
		t.Errorf("%q, %v, %v: Meet %v, Join %v", r, a, b, meet, join)
	}
	if is, e := height.Below(r, a, b); is != isBelow(of(a), of(b)) || e != api.OK {
		t.Errorf("%q: Below(%v, %v) = %v, %d", r, a, b, is, e)
	}
}

// checkBetween wants low to be below a, and a to be below high.
func checkBetween(t *testing.T, r []string, low, a, high []api.Domino) {
	t.Helper()
	above, e := height.Below(r, low, a)
	under, f := height.Below(r, a, high)
	if !above || e != api.OK || !under || f != api.OK {
		t.Errorf("%q: %v is not between %v and %v", r, a, low, high)
	}
}
