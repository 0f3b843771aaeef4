package sample_test

// P8.4 (Points, Bits, Draw).

import (
	"math"
	"math/big"
	"slices"
	"testing"

	"encaustic/api"
	"encaustic/domino"
	"encaustic/sample"
)

func TestPointsExamples(t *testing.T) {
	for _, c := range []struct {
		r    []string
		want []api.Cell
	}{
		{rectangle(2, 2), []api.Cell{{X: 1, Y: 1}}},
		{rectangle(3, 3), []api.Cell{{X: 1, Y: 1}, {X: 2, Y: 1}, {X: 1, Y: 2}, {X: 2, Y: 2}}},
		{rectangle(4, 2), []api.Cell{{X: 1, Y: 1}, {X: 2, Y: 1}, {X: 3, Y: 1}}},
		{rectangle(2, 4), []api.Cell{{X: 1, Y: 1}, {X: 1, Y: 2}, {X: 1, Y: 3}}},
		{rectangle(8, 1), nil},
		{rectangle(1, 8), nil},
		{[]string{"#"}, nil},
		{[]string{"##", "#."}, nil},
		{[]string{".##.", "####", ".##."}, []api.Cell{{X: 2, Y: 1}, {X: 2, Y: 2}}},
		{[]string{"...", ".##", ".##"}, []api.Cell{{X: 2, Y: 2}}},
	} {
		if got, e := sample.Points(c.r); !slices.Equal(got, c.want) || e != api.OK {
			t.Errorf("Points(%q) = %v, %d, want %v", c.r, got, e, c.want)
		}
	}
}

// TestPointsOfEveryRegion looks at the four cells around all points, whether there are tilings or not.
func TestPointsOfEveryRegion(t *testing.T) {
	regions := append(everyRegion(3, 4), everyRegion(4, 3)...)
	for _, r := range append(append(regions, largePlain()...), notPlain()...) {
		got, e := sample.Points(r)
		if !isPlain(r) {
			if len(got) != 0 || e != api.ErrState {
				t.Errorf("Points(%q) = %v, %d, want ErrState", r, got, e)
			}
			continue
		}
		want := slices.DeleteFunc(grid(0, 0, len(r[0]), len(r)), func(p api.Cell) bool {
			return !has(r, p.X-1, p.Y-1) || !has(r, p.X, p.Y-1) || !has(r, p.X-1, p.Y) || !has(r, p.X, p.Y)
		})
		if !slices.Equal(got, want) || e != api.OK {
			t.Errorf("Points(%q) = %v, %d, want %v", r, got, e, want)
		}
	}
}

// numberAfter computes the next number of a series with numbers of any length.
func numberAfter(x *big.Int) *big.Int {
	factor, _ := new(big.Int).SetString("6364136223846793005", 10)
	more, _ := new(big.Int).SetString("1442695040888963407", 10)
	product := new(big.Int).Mul(x, factor)
	return product.Add(product, more).Mod(product, new(big.Int).Lsh(big.NewInt(1), 64))
}

// slowBits makes moves of a seed with numbers of any length.
func slowBits(points []api.Cell, seed uint64, n int) []api.Nudge {
	var moves []api.Nudge
	x := new(big.Int).SetUint64(seed)
	for range n {
		x = numberAfter(x)
		y := new(big.Int).Div(x, big.NewInt(1<<33))
		half := new(big.Int).Div(y, big.NewInt(2))
		p := points[half.Mod(half, big.NewInt(int64(len(points)))).Int64()]
		moves = append(moves, api.Nudge{X: p.X, Y: p.Y, Up: y.Bit(0) == 1})
	}
	return moves
}

// seeds are the least and the greatest ones, and others.
func seeds() []uint64 {
	return []uint64{0, 1, 2, 5, 7, 1 << 31, 1 << 32, 1 << 33, 1<<63 - 1, 1 << 63, math.MaxUint64 - 1, math.MaxUint64, 0x0123456789abcdef}
}

func TestBits(t *testing.T) {
	for _, r := range [][]string{rectangle(2, 2), rectangle(3, 3), rectangle(4, 2), rectangle(7, 7), rectangle(8, 8), diamond(), {".##", "###", "###"}} {
		points, _ := sample.Points(r)
		for _, seed := range seeds() {
			want := slowBits(points, seed, 300)
			for _, n := range []int{0, 1, 2, 3, 299, 300} {
				if got, e := sample.Bits(r, seed, n); !slices.Equal(got, want[:n]) || e != api.OK {
					t.Errorf("Bits(%q, %d, %d) = %v, %d, want %v", r, seed, n, got, e, want[:n])
				}
			}
		}
	}
}

// TestFirstBits has numbers that were found elsewhere: of the seed 0 the first number is 1442695040888963407, whose
// upper 31 bits are 167951807, so that the move is up at the point 83975903 modulo 9; and then comes
// 1876011003808476466, with 218396424.
func TestFirstBits(t *testing.T) {
	got, e := sample.Bits(rectangle(4, 4), 0, 2)
	if want := []api.Nudge{up(3, 3), fall(1, 3)}; !slices.Equal(got, want) || e != api.OK {
		t.Errorf("%v, %d, want %v", got, e, want)
	}
}

func TestNumberOfBits(t *testing.T) {
	for _, r := range [][]string{rectangle(2, 2), rectangle(8, 8), rectangle(2, 1), {"#"}, {"###", "###", "###"}} {
		points, _ := sample.Points(r)
		for _, n := range []int{0, 1, 19999, 20000} {
			got, e := sample.Bits(r, 3, n)
			if len(got) != min(n, n*len(points)) || e != api.OK {
				t.Errorf("Bits(%q, 3, %d): %d moves, %d", r, n, len(got), e)
			}
		}
		for _, n := range []int{-1, 20001, 1 << 32, -1 << 32, math.MinInt, math.MinInt + 1, math.MaxInt} {
			if got, e := sample.Bits(r, 3, n); len(got) != 0 || e != api.ErrArg {
				t.Errorf("Bits(%q, 3, %d): %d moves, %d, want ErrArg", r, n, len(got), e)
			}
		}
	}
}

// checkDraw finds the index with numbers of any length.
func checkDraw(t *testing.T, r []string, seed uint64) {
	t.Helper()
	count, _ := domino.Count(r)
	half := new(big.Int).Rsh(numberAfter(new(big.Int).SetUint64(seed)), 1)
	index := int(half.Mod(half, big.NewInt(int64(count))).Int64())
	want, _ := sample.At(r, index)
	if got, e := sample.Draw(r, seed); !slices.Equal(got, want) || e != api.OK {
		t.Errorf("Draw(%q, %d) = %v, %d, want %v", r, seed, got, e, want)
	}
}

func TestDraw(t *testing.T) {
	regions := append(largePlain(), rectangle(2, 2), rectangle(2, 3), rectangle(4, 4))
	for _, r := range append(regions, notPlain()...) {
		for _, seed := range seeds() {
			if n, _ := domino.Count(r); n > 0 {
				checkDraw(t, r, seed)
			} else if got, e := sample.Draw(r, seed); len(got) != 0 || e != api.ErrPlan {
				t.Errorf("Draw(%q, %d) = %v, %d, want ErrPlan", r, seed, got, e)
			}
		}
	}
	plain, others := noTilings()
	for _, r := range append(plain, others...) {
		if got, e := sample.Draw(r, 1); len(got) != 0 || e != api.ErrPlan {
			t.Errorf("Draw(%q, 1) = %v, %d, want ErrPlan", r, got, e)
		}
	}
}

// TestDrawWithoutCells: there is one tiling, without dominoes.
func TestDrawWithoutCells(t *testing.T) {
	for _, seed := range seeds() {
		if got, e := sample.Draw([]string{"..", ".."}, seed); len(got) != 0 || e != api.OK {
			t.Error(got, e)
		}
	}
}

// TestDrawsAllTilings: seeds in a row take all 36 tilings of four by four.
func TestDrawsAllTilings(t *testing.T) {
	found := map[int]int{}
	for seed := range uint64(2000) {
		got, _ := sample.Draw(rectangle(4, 4), seed)
		i, _ := sample.Index(rectangle(4, 4), got)
		found[i]++
	}
	if len(found) != 36 {
		t.Error(found)
	}
}
