package sample_test

// P8.2 (Nudged), P8.6 (monotone), P8.7 (fair) and P8.10 (flips).

import (
	"fmt"
	"math"
	"math/rand"
	"slices"
	"testing"

	"encaustic/api"
	"encaustic/height"
	"encaustic/sample"
)

func TestNudgedExamples(t *testing.T) {
	flat, upright := []api.Domino{across(0, 0), across(0, 1)}, []api.Domino{down(0, 0), down(1, 0)}
	three := []api.Domino{down(0, 0), down(1, 0), down(2, 0)}
	for _, c := range []struct {
		r            []string
		tiling, want []api.Domino
		moves        []api.Nudge
	}{
		{rectangle(2, 2), upright, flat, []api.Nudge{up(1, 1)}},
		{rectangle(2, 2), upright, upright, []api.Nudge{fall(1, 1)}},
		{rectangle(2, 2), flat, flat, []api.Nudge{up(1, 1)}},
		{rectangle(2, 2), flat, upright, []api.Nudge{fall(1, 1)}},
		{rectangle(2, 2), flat, flat, nil},
		{rectangle(2, 2), flat, flat, []api.Nudge{fall(0, 0), fall(2, 2), fall(1, 0), fall(0, 1), fall(1, 2), fall(2, 1)}},
		{rectangle(2, 2), upright, upright, []api.Nudge{up(1, 1), up(1, 1), fall(1, 1)}},
		{rectangle(3, 2), three, []api.Domino{across(0, 0), down(2, 0), across(0, 1)}, []api.Nudge{up(1, 1)}},
		{rectangle(3, 2), three, []api.Domino{down(0, 0), across(1, 0), across(1, 1)}, []api.Nudge{fall(2, 1)}},
		{rectangle(3, 2), three, three, []api.Nudge{fall(1, 1), up(2, 1)}},
		{rectangle(3, 2), three, []api.Domino{across(0, 0), down(2, 0), across(0, 1)}, []api.Nudge{up(1, 1), fall(2, 1)}},
		{rectangle(2, 1), []api.Domino{across(0, 0)}, []api.Domino{across(0, 0)}, []api.Nudge{up(1, 1), fall(1, 0), up(0, 0)}},
	} {
		if got, e := sample.Nudged(c.r, c.tiling, c.moves); !slices.Equal(got, c.want) || e != api.OK {
			t.Errorf("Nudged(%q, %v, %v) = %v, %d, want %v", c.r, c.tiling, c.moves, got, e, c.want)
		}
	}
}

// checkOneMove compares a move with the slow one; if it does something, that is a flip, which the opposite move undoes.
func checkOneMove(t *testing.T, r []string, tiling []api.Domino, m api.Nudge) {
	t.Helper()
	got, e := sample.Nudged(r, tiling, []api.Nudge{m})
	if want := slowNudge(t, r, tiling, m); !slices.Equal(got, want) || e != api.OK {
		t.Fatalf("Nudged(%q, %v, %v) = %v, %d, want %v", r, tiling, m, got, e, want)
	}
	if slices.Equal(got, tiling) {
		return
	}
	if flip, e := height.Flip(r, tiling, m.X-1, m.Y-1); !slices.Equal(flip, got) || e != api.OK {
		t.Errorf("%q, %v: %v makes %v, but the flip %v, %d", r, tiling, m, got, flip, e)
	}
	back, e := sample.Nudged(r, got, []api.Nudge{{X: m.X, Y: m.Y, Up: !m.Up}})
	if !slices.Equal(back, tiling) || e != api.OK {
		t.Errorf("%q, %v: %v back is %v, %d", r, tiling, m, back, e)
	}
}

// checkMoves makes all moves at all points, those around the region too.
func checkMoves(t *testing.T, r []string, tiling []api.Domino) {
	t.Helper()
	for _, p := range grid(-1, -1, len(r[0])+1, len(r)+1) {
		checkOneMove(t, r, tiling, up(p.X, p.Y))
		checkOneMove(t, r, tiling, fall(p.X, p.Y))
	}
}

func TestEveryMove(t *testing.T) {
	for _, r := range smallPlain() {
		for _, tiling := range tilings(r) {
			checkMoves(t, r, tiling)
		}
	}
	for _, r := range largePlain() {
		for _, tiling := range someTilings(t, r, 3) {
			checkMoves(t, r, tiling)
		}
	}
}

// TestManyMoves goes through long lists of moves slowly, and in parts.
func TestManyMoves(t *testing.T) {
	random := rand.New(rand.NewSource(82))
	for _, r := range append(largePlain(), severalTilings()...) {
		start := someTilings(t, r, 2)[1]
		moves := append(randomMoves(random, r, 40), innerMoves(t, random, r, 60)...)
		want := slowNudges(t, r, start, moves)
		if got, e := sample.Nudged(r, start, moves); !slices.Equal(got, want) || e != api.OK {
			t.Fatalf("Nudged(%q, %v, %v) = %v, %d, want %v", r, start, moves, got, e, want)
		}
		half, _ := sample.Nudged(r, start, moves[:30])
		if got, e := sample.Nudged(r, half, moves[30:]); !slices.Equal(got, want) || e != api.OK {
			t.Errorf("%q, %v, %v in two parts: %v, %d, want %v", r, start, moves, got, e, want)
		}
	}
}

// TestNoPointFarAway: neither do such moves do anything, nor do they stop those after them.
func TestNoPointFarAway(t *testing.T) {
	flat, upright := []api.Domino{across(0, 0), across(0, 1)}, []api.Domino{down(0, 0), down(1, 0)}
	for _, x := range ints() {
		for _, y := range ints() {
			if x == 1 && y == 1 {
				continue
			}
			moves := []api.Nudge{up(x, y), fall(x, y)}
			if got, e := sample.Nudged(rectangle(2, 2), flat, moves); !slices.Equal(got, flat) || e != api.OK {
				t.Errorf("%v: %v, %d", moves, got, e)
			}
			if got, e := sample.Nudged(rectangle(2, 2), flat, append(moves, fall(1, 1))); !slices.Equal(got, upright) || e != api.OK {
				t.Errorf("%v and down: %v, %d", moves, got, e)
			}
		}
	}
	for _, p := range grid(0, 0, 8, 8) {
		for _, by := range []int{1 << 32, -1 << 32, math.MinInt, 9, -9, 8} {
			moves := []api.Nudge{up(p.X+by, p.Y), fall(p.X+by, p.Y), up(p.X, p.Y+by), fall(p.X, p.Y+by)}
			tiling := someTilings(t, rectangle(8, 8), 1)[0]
			want := slowNudges(t, rectangle(8, 8), tiling, moves)
			if got, e := sample.Nudged(rectangle(8, 8), tiling, moves); !slices.Equal(got, want) || e != api.OK {
				t.Errorf("%v: %v, %d", moves, got, e)
			}
		}
	}
}

// manyMoves are n moves up and down at the middle of two by two.
func manyMoves(n int) []api.Nudge {
	var moves []api.Nudge
	for i := range n {
		moves = append(moves, api.Nudge{X: 1, Y: 1, Up: i%2 == 0})
	}
	return moves
}

func TestLimitOfMoves(t *testing.T) {
	flat, upright := []api.Domino{across(0, 0), across(0, 1)}, []api.Domino{down(0, 0), down(1, 0)}
	for _, c := range []struct {
		n     int
		want  []api.Domino
		errno api.Errno
	}{
		{19999, flat, api.OK},
		{20000, upright, api.OK},
		{20001, nil, api.ErrLimit},
		{40000, nil, api.ErrLimit},
	} {
		if got, e := sample.Nudged(rectangle(2, 2), flat, manyMoves(c.n)); !slices.Equal(got, c.want) || e != c.errno {
			t.Errorf("Nudged with %d moves: %v, %d, want %v, %d", c.n, got, e, c.want, c.errno)
		}
		got, after, e := sample.Met(rectangle(2, 2), manyMoves(c.n))
		if !slices.Equal(got, c.want) || after != len(c.want)/2 || e != c.errno {
			t.Errorf("Met with %d moves: %v, %d, %d, want %v, %d", c.n, got, after, e, c.want, c.errno)
		}
		got, k, e := sample.Past(rectangle(2, 2), manyMoves(c.n))
		if !slices.Equal(got, c.want) || k != len(c.want)/2 || e != c.errno {
			t.Errorf("Past with %d moves: %v, %d, %d, want %v, %d", c.n, got, k, e, c.want, c.errno)
		}
	}
}

// checkMonotone wants the same moves to keep s below t.
func checkMonotone(t *testing.T, r []string, low, high []api.Domino, moves []api.Nudge) {
	t.Helper()
	a, e := sample.Nudged(r, low, moves)
	b, f := sample.Nudged(r, high, moves)
	below, g := height.Below(r, a, b)
	if !below || e != api.OK || f != api.OK || g != api.OK {
		t.Errorf("%q, %v, %v: %v makes %v, %d and %v, %d", r, low, high, moves, a, e, b, f)
	}
}

func TestMonotone(t *testing.T) {
	random := rand.New(rand.NewSource(86))
	for _, r := range severalTilings() {
		all := tilings(r)
		for range 40 {
			s, u := all[random.Intn(len(all))], all[random.Intn(len(all))]
			low, _ := height.Meet(r, s, u)
			checkMonotone(t, r, low, s, innerMoves(t, random, r, 1+random.Intn(8)))
			checkMonotone(t, r, low, u, randomMoves(random, r, 10))
		}
	}
	for _, r := range largePlain() {
		list := someTilings(t, r, 4)
		for _, s := range list {
			low, _ := height.Meet(r, s, list[3])
			high, _ := height.Join(r, s, list[3])
			checkMonotone(t, r, low, s, innerMoves(t, random, r, 300))
			checkMonotone(t, r, s, high, innerMoves(t, random, r, 300))
		}
	}
}

// TestFair counts which tilings the moves make of all tilings.
func TestFair(t *testing.T) {
	for _, r := range smallPlain() {
		points, _ := sample.Points(r)
		all, found := tilings(r), map[string]int{}
		for _, tiling := range all {
			for _, p := range points {
				for _, m := range []api.Nudge{up(p.X, p.Y), fall(p.X, p.Y)} {
					got, _ := sample.Nudged(r, tiling, []api.Nudge{m})
					found[fmt.Sprint(got)]++
				}
			}
		}
		for _, tiling := range all {
			if n := found[fmt.Sprint(tiling)]; n != 2*len(points) {
				t.Errorf("%q: %d moves make %v, want %d", r, n, tiling, 2*len(points))
			}
		}
	}
}
