package wang_test

// P7.4 (Least), P7.11 (closed boards repeat).

import (
	"slices"
	"testing"

	"encaustic/api"
	"encaustic/wang"
)

// union has sets of which no two have a colour in common on sides that could meet.
func union(sets ...[]api.Wang) []api.Wang { return slices.Concat(sets...) }

func TestLeastExamples(t *testing.T) {
	for _, c := range []struct {
		set  []api.Wang
		w, h int
	}{
		{tiles("0000", "1010"), 1, 1},
		{tiles("0100", "0010", "1111"), 1, 1},
		{tiles("0010", "1000"), 1, 2},
		{tiles("0100", "0001"), 2, 1},
		{tiles("0110", "1001"), 2, 2},
		{union(wheelFrom(1, 2, 0, 0), wheelFrom(2, 1, 1, 2)), 1, 2},
		{union(wheelFrom(2, 1, 1, 2), wheelFrom(1, 2, 0, 0)), 1, 2},
		{union(wheelFrom(1, 3, 0, 0), wheelFrom(3, 1, 1, 3)), 1, 3},
		{union(wheelFrom(3, 1, 1, 3), wheelFrom(1, 4, 0, 4)), 3, 1},
		{union(wheelFrom(2, 2, 0, 0), wheelFrom(4, 1, 2, 2)), 2, 2},
		{union(wheelFrom(2, 2, 0, 0), wheelFrom(1, 4, 2, 2)), 1, 4},
		{union(wheelFrom(2, 2, 0, 0), wheelFrom(1, 4, 2, 2), wheelFrom(4, 1, 3, 6)), 1, 4},
		{union(wheelFrom(3, 2, 0, 0), wheelFrom(2, 3, 3, 2)), 2, 3},
		{union(wheelFrom(2, 4, 0, 0), wheelFrom(3, 2, 2, 4)), 3, 2},
		{union(wheelFrom(4, 2, 0, 0), wheelFrom(2, 4, 4, 2)), 2, 4},
		{union(wheelFrom(4, 2, 0, 0), wheelFrom(1, 4, 4, 2)), 1, 4},
		{tiles("0120", "1001", "2110"), 0, 0},
		{tiles("0000", "1000", "0100"), 1, 1},
		{tiles("0102", "2013", "1320"), 2, 2},
		{tiles("0123"), 0, 0},
		{stairs(4), 0, 0},
		{tiles("0110", "1121", "2132", "3143", "4104"), 0, 0},
		{wheel(1, 5), 0, 0},
		{wheel(5, 2), 0, 0},
		{notPeriodic(), 0, 0},
	} {
		want := api.OK
		if c.w == 0 {
			want = api.ErrPlan
		}
		if w, h, e := wang.Least(c.set); w != c.w || h != c.h || e != want {
			t.Errorf("%v: Least is %d by %d, %d, want %d by %d", c.set, w, h, e, c.w, c.h)
		}
	}
}

func TestLeastOfWheels(t *testing.T) {
	eachSize(func(p, q int) {
		if w, h, e := wang.Least(wheel(p, q)); w != p || h != q || e != api.OK {
			t.Errorf("%d by %d: Least is %d by %d, %d", p, q, w, h, e)
		}
	})
}

// slowLeast looks at all measures; it takes another one only if it is better.
func slowLeast(set []api.Wang) (int, int, api.Errno) {
	leastW, leastH := 0, 0
	eachSize(func(w, h int) {
		better := leastW == 0 || w*h < leastW*leastH || w*h == leastW*leastH && w < leastW
		if better && slowCount(set, w, h, true) > 0 {
			leastW, leastH = w, h
		}
	})
	if leastW == 0 {
		return 0, 0, api.ErrPlan
	}
	return leastW, leastH, api.OK
}

func TestLeastIsBestOfAll(t *testing.T) {
	found := map[[2]int]int{}
	for _, set := range append(randomSets(9, 400), handMade()...) {
		if slowCount(set, 4, 2, false) > 20000 {
			continue
		}
		wantW, wantH, want := slowLeast(set)
		found[[2]int{wantW, wantH}]++
		if w, h, e := wang.Least(set); w != wantW || h != wantH || e != want {
			t.Errorf("%v: Least is %d by %d, %d, want %d by %d, %d", set, w, h, e, wantW, wantH, want)
		}
	}
	if len(found) < 8 {
		t.Error("few different results:", found)
	}
}

// TestClosedBoardsRepeat: with one there are good boards of every size, and closed ones of all its multiples.
func TestClosedBoardsRepeat(t *testing.T) {
	closedOnes := 0
	for _, set := range lightSets(25, 150) {
		leastW, leastH, e := wang.Least(set)
		if e != api.OK {
			continue
		}
		closedOnes++
		eachSize(func(w, h int) {
			if board, e := wang.Fill(set, w, h); len(board) != h || e != api.OK {
				t.Errorf("%v: closed is %d by %d, but Fill of %d by %d is %v, %d", set, leastW, leastH, w, h, board, e)
			}
			if n, e := wang.Closed(set, w, h); w%leastW == 0 && h%leastH == 0 && (n == 0 || e != api.OK) {
				t.Errorf("%v: closed is %d by %d, but Closed of %d by %d is %d, %d", set, leastW, leastH, w, h, n, e)
			}
		})
	}
	if closedOnes < 50 {
		t.Error("sets with closed boards:", closedOnes)
	}
}

// TestLeastIsClosed: Closed says the same, and Good of the board that is closed.
func TestLeastIsClosed(t *testing.T) {
	for _, set := range lightSets(26, 150) {
		leastW, leastH, e := wang.Least(set)
		eachSize(func(w, h int) {
			n, f := wang.Closed(set, w, h)
			must(t, f)
			before := e != api.OK || w*h < leastW*leastH || w*h == leastW*leastH && w < leastW
			if before && n > 0 || w == leastW && h == leastH && n == 0 {
				t.Errorf("%v: Least is %d by %d, %d, and Closed of %d by %d is %d", set, leastW, leastH, e, w, h, n)
			}
		})
	}
}
