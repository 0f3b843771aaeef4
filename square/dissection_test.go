package square_test

// P1.4 (Is, Network) and P1.8 (dissections).

import (
	"math/rand"
	"slices"
	"testing"

	"encaustic/api"
	"encaustic/square"
)

// nine is the rectangle of 33 by 32 in nine different squares.
func nine() []api.Square {
	return squaresOf(0, 0, 18, 18, 0, 15, 18, 15, 7, 25, 15, 8, 0, 18, 14, 14, 18, 4, 14, 22, 10, 24, 22, 1, 24, 23, 9)
}

// units cuts a rectangle into unit squares.
func units(w, h int) []api.Square {
	var squares []api.Square
	for y := range h {
		for x := range w {
			squares = append(squares, api.Square{X: x, Y: y, Side: 1})
		}
	}
	return squares
}

// dissection is a list of squares with a rectangle.
type dissection struct {
	w, h    int
	squares []api.Square
}

// someDissections are all of small rectangles and some of greater ones.
func someDissections() []dissection {
	list := []dissection{
		{33, 32, nine()},
		{1000, 1000, squaresOf(0, 0, 1000)},
		{1000, 500, squaresOf(500, 0, 500, 0, 0, 500)},
		{16, 1, units(16, 1)},
		{1, 16, units(1, 16)},
		{8, 4, squaresOf(0, 0, 2, 0, 2, 2, 2, 0, 4, 6, 0, 2, 6, 2, 2)},
	}
	for w := 1; w <= 5; w++ {
		for h := 1; h <= 5; h++ {
			for _, squares := range dissections(w, h) {
				list = append(list, dissection{w, h, squares})
			}
		}
	}
	return list
}

func TestIsOfDissections(t *testing.T) {
	for _, d := range someDissections() {
		if ok, e := square.Is(d.w, d.h, d.squares); !ok || e != api.OK {
			t.Errorf("Is(%v) = %v, %d", d, ok, e)
		}
		backwards := slices.Clone(d.squares)
		slices.Reverse(backwards)
		if ok, e := square.Is(d.w, d.h, backwards); !ok || e != api.OK {
			t.Errorf("Is(%v) backwards = %v, %d", d, ok, e)
		}
	}
}

func TestIsOfOthers(t *testing.T) {
	for _, c := range []struct {
		what string
		dissection
	}{
		{"nothing", dissection{1, 1, nil}},
		{"an empty list", dissection{1, 1, []api.Square{}}},
		{"a square is missing", dissection{33, 32, nine()[:8]}},
		{"a square too great", dissection{33, 32, squaresOf(0, 0, 33)}},
		{"a gap", dissection{2, 1, squaresOf(0, 0, 1)}},
		{"the same twice, with the right area", dissection{2, 1, squaresOf(0, 0, 1, 0, 0, 1)}},
		{"one overlaps, with the right area", dissection{3, 3, squaresOf(0, 0, 2, 1, 1, 2, 0, 2, 1)}},
		{"a square too many, inside", dissection{2, 2, squaresOf(0, 0, 2, 1, 1, 1)}},
		{"a square too many, at the end", dissection{2, 2, squaresOf(0, 0, 2, 2, 0, 1)}},
		{"the side 0 too many", dissection{2, 2, squaresOf(0, 0, 2, 1, 1, 0)}},
		{"the side 0 alone", dissection{1, 1, squaresOf(0, 0, 0)}},
		{"a negative side", dissection{1, 1, squaresOf(1, 1, -1)}},
		{"a negative side, with the right area", dissection{2, 1, squaresOf(0, 0, 1, 2, 1, -1)}},
		{"too far to the right", dissection{2, 1, squaresOf(0, 0, 1, 2, 0, 1)}},
		{"too far to the left", dissection{2, 1, squaresOf(0, 0, 1, -1, 0, 1)}},
		{"too far down", dissection{1, 2, squaresOf(0, 0, 1, 0, 2, 1)}},
		{"too far up", dissection{1, 2, squaresOf(0, 0, 1, 0, -1, 1)}},
		{"half outside", dissection{2, 2, squaresOf(1, 0, 2)}},
		{"half below", dissection{2, 2, squaresOf(0, 1, 2)}},
		{"turned", dissection{2, 1, squaresOf(0, 0, 1, 0, 1, 1)}},
		{"a gap under too many levels", dissection{1, 17, units(1, 16)}},
		{"an overlap in too many levels", dissection{2, 10, append(units(1, 10), squaresOf(0, 8, 2)...)}},
		{"great numbers", dissection{2, 2, squaresOf(0, 0, greatest)}},
		{"X overflows", dissection{2, 1, squaresOf(0, 0, 1, greatest, 0, 1)}},
		{"Y overflows", dissection{1, 2, squaresOf(0, 0, 1, 0, greatest, 1)}},
		{"X and the side overflow", dissection{1, 1, squaresOf(least, 0, greatest)}},
		{"X and the side overflow to 1", dissection{1, 1, squaresOf(2-greatest, 0, greatest-1)}},
		{"the area overflows to 0", dissection{1, 1, squaresOf(0, 0, 1, 0, 0, 1<<32)}},
		{"the area overflows to 1", dissection{1, 1, squaresOf(0, 0, 1<<32+1, 0, 0, least)}},
		{"the least numbers", dissection{1, 1, squaresOf(least, least, least)}},
	} {
		if ok, e := square.Is(c.w, c.h, c.squares); ok || e != api.OK {
			t.Errorf("Is of %s = %v, %d", c.what, ok, e)
		}
		n, wires, e := square.Network(c.w, c.h, c.squares)
		if n != 0 || len(wires) != 0 || e != api.ErrPlan {
			t.Errorf("Network of %s = %d, %v, %d", c.what, n, wires, e)
		}
	}
}

// TestIsPaints compares Is with what it says of painted cells, for dissections with something wrong in them.
func TestIsPaints(t *testing.T) {
	r := rand.New(rand.NewSource(2))
	yes := 0
	for _, d := range someDissections() {
		if d.w > 8 || d.h > 8 {
			continue
		}
		for range 8 {
			squares := slices.Clone(d.squares)
			changed := &squares[r.Intn(len(squares))]
			changed.X += r.Intn(3) - 1
			changed.Y += r.Intn(3) - 1
			changed.Side += r.Intn(3) - 1
			want := paints(d.w, d.h, squares)
			if want {
				yes++
			}
			if got, e := square.Is(d.w, d.h, squares); got != want || e != api.OK {
				t.Errorf("Is(%d, %d, %v) = %v, %d, want %v", d.w, d.h, squares, got, e, want)
			}
		}
	}
	if yes == 0 {
		t.Error("all of the changed dissections are wrong")
	}
}

func TestIsAndNetworkErrors(t *testing.T) {
	seventeen := units(17, 1)
	for _, c := range []struct {
		dissection
		want api.Errno
	}{
		{dissection{0, 1, units(1, 1)}, api.ErrArg},
		{dissection{1, 0, units(1, 1)}, api.ErrArg},
		{dissection{0, 0, nil}, api.ErrArg},
		{dissection{-1, -1, squaresOf(0, 0, -1)}, api.ErrArg},
		{dissection{1001, 1000, squaresOf(0, 0, 1000)}, api.ErrArg},
		{dissection{1000, 1001, squaresOf(0, 0, 1000)}, api.ErrArg},
		{dissection{1001, 1001, squaresOf(0, 0, 1001)}, api.ErrArg},
		{dissection{least, 1, nil}, api.ErrArg},
		{dissection{greatest, greatest, squaresOf(0, 0, greatest)}, api.ErrArg},
		{dissection{1, least, nil}, api.ErrArg},
		{dissection{0, 1, seventeen}, api.ErrArg},
		{dissection{1, 1001, seventeen}, api.ErrArg},
		{dissection{17, 1, seventeen}, api.ErrLimit},
		{dissection{2, 2, seventeen}, api.ErrLimit},
		{dissection{2, 2, make([]api.Square, 17)}, api.ErrLimit},
		{dissection{1, 17, units(1, 17)}, api.ErrLimit},
	} {
		ok, e := square.Is(c.w, c.h, c.squares)
		n, wires, en := square.Network(c.w, c.h, c.squares)
		wantErrno(t, "Is", e, c.want)
		wantErrno(t, "Network", en, c.want)
		if ok || n != 0 || len(wires) != 0 {
			t.Errorf("%v: results %v, %d, %v with errors", c.dissection, ok, n, wires)
		}
	}
}

func TestNetworkExamples(t *testing.T) {
	for _, c := range []struct {
		what string
		dissection
		n     int
		wires []api.Wire
	}{
		{"nine squares", dissection{33, 32, nine()}, 6, wiresOf(0, 2, 0, 1, 1, 3, 1, 4, 2, 5, 2, 3, 3, 5, 3, 4, 4, 5)},
		{"one square", dissection{7, 7, squaresOf(0, 0, 7)}, 2, wiresOf(0, 1)},
		{"four squares about a point", dissection{2, 2, units(2, 2)}, 3, wiresOf(0, 1, 0, 1, 1, 2, 1, 2)},
		{"levels side by side", dissection{8, 4, squaresOf(0, 0, 2, 0, 2, 2, 2, 0, 4, 6, 0, 2, 6, 2, 2)}, 4, wiresOf(0, 1, 1, 3, 0, 3, 0, 2, 2, 3)},
		{"the same in another order", dissection{8, 4, squaresOf(6, 2, 2, 6, 0, 2, 2, 0, 4, 0, 2, 2, 0, 0, 2)}, 4, wiresOf(2, 3, 0, 2, 0, 3, 1, 3, 0, 1)},
		{"a row", dissection{16, 1, units(16, 1)}, 2, manyWires(16)},
		{"a column", dissection{1, 7, units(1, 7)}, 8, wiresOf(0, 1, 1, 2, 2, 3, 3, 4, 4, 5, 5, 6, 6, 7)},
		{"a level that its ends make", dissection{3, 3, squaresOf(2, 2, 1, 2, 1, 1, 2, 0, 1, 0, 0, 2, 0, 2, 1, 1, 2, 1)}, 4, wiresOf(2, 3, 1, 2, 0, 1, 0, 2, 2, 3, 2, 3)},
	} {
		n, wires, e := square.Network(c.w, c.h, c.squares)
		if n != c.n || !slices.Equal(wires, c.wires) || e != api.OK {
			t.Errorf("Network of %s = %d, %v, %d, want %d, %v", c.what, n, wires, e, c.n, c.wires)
		}
	}
}

func TestNetworkIsFull(t *testing.T) {
	for _, d := range []dissection{{1, 8, units(1, 8)}, {1, 16, units(1, 16)}, {2, 8, units(2, 8)}} {
		n, wires, e := square.Network(d.w, d.h, d.squares)
		if n != 0 || len(wires) != 0 || e != api.ErrFull {
			t.Errorf("Network(%v) = %d, %v, %d", d, n, wires, e)
		}
	}
}

// TestNetworkIsDrawn compares Network with levels that are drawn edge by edge, in several orders of the squares.
func TestNetworkIsDrawn(t *testing.T) {
	r := rand.New(rand.NewSource(3))
	full := 0
	for _, d := range someDissections() {
		squares := slices.Clone(d.squares)
		for range 3 {
			levels, want := levelNetwork(d.w, d.h, squares)
			n, wires, e := square.Network(d.w, d.h, squares)
			if levels > api.MaxVertices {
				full++
				levels, want = 0, nil
				wantErrno(t, "Network", e, api.ErrFull)
			} else {
				wantErrno(t, "Network", e, api.OK)
			}
			if n != levels || !slices.Equal(wires, want) {
				t.Errorf("Network(%d, %d, %v) = %d, %v, %d, want %d, %v", d.w, d.h, squares, n, wires, e, levels, want)
			}
			r.Shuffle(len(squares), func(i, j int) { squares[i], squares[j] = squares[j], squares[i] })
		}
	}
	if full == 0 {
		t.Error("no dissection has too many levels")
	}
}

// TestSidesAreCurrents is P1.8.
func TestSidesAreCurrents(t *testing.T) {
	for _, d := range someDissections() {
		n, wires, e := square.Network(d.w, d.h, d.squares)
		if e == api.ErrFull {
			continue
		}
		f, ef := square.Through(n, wires, 0, n-1)
		if e != api.OK || ef != api.OK || len(f.Currents) != len(d.squares) {
			t.Fatalf("%v: Network %d, Through %v, %d", d, e, f, ef)
		}
		if f.Total < 1 || f.Total*d.h != f.Voltage*d.w {
			t.Errorf("%v: %d by %d", d, f.Total, f.Voltage)
		}
		for i, s := range d.squares {
			if f.Currents[i]*d.w != s.Side*f.Total {
				t.Errorf("%v: current %d is %d of %d", d, i, f.Currents[i], f.Total)
			}
		}
	}
}
