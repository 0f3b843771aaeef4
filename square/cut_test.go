package square_test

// P1.5 (Cut) and P1.11 (Euclid).

import (
	"slices"
	"testing"

	"encaustic/api"
	"encaustic/square"
)

func TestCutExamples(t *testing.T) {
	for _, c := range []struct {
		w, h int
		want []api.Square
	}{
		{5, 3, squaresOf(0, 0, 3, 3, 0, 2, 3, 2, 1, 4, 2, 1)},
		{3, 5, squaresOf(0, 0, 3, 0, 3, 2, 2, 3, 1, 2, 4, 1)},
		{1, 1, squaresOf(0, 0, 1)},
		{1000, 1000, squaresOf(0, 0, 1000)},
		{1000, 500, squaresOf(0, 0, 500, 500, 0, 500)},
		{500, 1000, squaresOf(0, 0, 500, 0, 500, 500)},
		{16, 1, units(16, 1)},
		{1, 16, units(1, 16)},
	} {
		got, e := square.Cut(c.w, c.h)
		if !slices.Equal(got, c.want) || e != api.OK {
			t.Errorf("Cut(%d, %d) = %v, %d, want %v", c.w, c.h, got, e, c.want)
		}
	}
}

func TestCutErrors(t *testing.T) {
	for _, c := range []struct {
		w, h int
		want api.Errno
	}{
		{0, 1, api.ErrArg},
		{1, 0, api.ErrArg},
		{0, 0, api.ErrArg},
		{-5, 3, api.ErrArg},
		{5, -3, api.ErrArg},
		{1001, 1000, api.ErrArg},
		{1000, 1001, api.ErrArg},
		{1001, 1001, api.ErrArg},
		{1001, 1, api.ErrArg},
		{least, least, api.ErrArg},
		{greatest, greatest, api.ErrArg},
		{greatest, 1, api.ErrArg},
		{1, least, api.ErrArg},
		{17, 1, api.ErrFull},
		{1, 17, api.ErrFull},
		{1000, 1, api.ErrFull},
		{1000, 999, api.ErrFull},
		{34, 2, api.ErrFull},
	} {
		got, e := square.Cut(c.w, c.h)
		if len(got) != 0 || e != c.want {
			t.Errorf("Cut(%d, %d) = %v, %d, want the error %d", c.w, c.h, got, e, c.want)
		}
	}
}

// greedy cuts by greatest squares: it goes on with what is left until that is nothing.
func greedy(x, y, w, h int) []api.Square {
	switch {
	case w == h:
		return squaresOf(x, y, w)
	case w > h:
		return append(squaresOf(x, y, h), greedy(x+h, y, w-h, h)...)
	default:
		return append(squaresOf(x, y, w), greedy(x, y+w, w, h-w)...)
	}
}

// sizes are those of rectangles to cut: small ones and some at the limit.
func sizes() [][2]int {
	var list [][2]int
	for w := 1; w <= 90; w++ {
		for h := 1; h <= 90; h++ {
			list = append(list, [2]int{w, h})
		}
		for _, h := range []int{610, 618, 987, 999, 1000} {
			list = append(list, [2]int{w * 10, h}, [2]int{h, w * 11})
		}
	}
	return append(list, [2]int{987, 610}, [2]int{610, 987}, [2]int{1000, 618})
}

func TestCutIsGreedy(t *testing.T) {
	for _, s := range sizes() {
		want, wantE := greedy(0, 0, s[0], s[1]), api.OK
		if len(want) > api.MaxSquares {
			want, wantE = nil, api.ErrFull
		}
		got, e := square.Cut(s[0], s[1])
		if !slices.Equal(got, want) || e != wantE {
			t.Errorf("Cut(%v) = %v, %d, want %v, %d", s, got, e, want, wantE)
		}
	}
}

// TestEuclid is P1.11.
func TestEuclid(t *testing.T) {
	for _, s := range sizes() {
		squares, e := square.Cut(s[0], s[1])
		if e == api.ErrFull {
			continue
		}
		if ok, ei := square.Is(s[0], s[1], squares); e != api.OK || !ok || ei != api.OK {
			t.Fatalf("Cut(%v) = %v, %d, and Is %v, %d", s, squares, e, ok, ei)
		}
		for i := 1; i < len(squares); i++ {
			if squares[i].Side > squares[i-1].Side {
				t.Errorf("Cut(%v) = %v: sides grow", s, squares)
			}
		}
		divisor := min(s[0], s[1])
		for s[0]%divisor != 0 || s[1]%divisor != 0 {
			divisor--
		}
		if last := squares[len(squares)-1].Side; last != divisor {
			t.Errorf("Cut(%v): the last side is %d, want %d", s, last, divisor)
		}
	}
}
