package sample_test

// P8.1 (Index, At) and P8.5 (order).

import (
	"math"
	"math/rand"
	"slices"
	"testing"

	"encaustic/api"
	"encaustic/domino"
	"encaustic/sample"
)

func TestOrderExamples(t *testing.T) {
	for _, c := range []struct {
		r      []string
		index  int
		tiling []api.Domino
	}{
		{rectangle(2, 2), 0, []api.Domino{across(0, 0), across(0, 1)}},
		{rectangle(2, 2), 1, []api.Domino{down(0, 0), down(1, 0)}},
		{rectangle(2, 3), 0, []api.Domino{across(0, 0), across(0, 1), across(0, 2)}},
		{rectangle(2, 3), 1, []api.Domino{across(0, 0), down(0, 1), down(1, 1)}},
		{rectangle(2, 3), 2, []api.Domino{down(0, 0), down(1, 0), across(0, 2)}},
		{rectangle(3, 2), 0, []api.Domino{across(0, 0), down(2, 0), across(0, 1)}},
		{rectangle(3, 2), 1, []api.Domino{down(0, 0), across(1, 0), across(1, 1)}},
		{rectangle(3, 2), 2, []api.Domino{down(0, 0), down(1, 0), down(2, 0)}},
		{[]string{"###", "#.#", "###"}, 0, []api.Domino{across(0, 0), down(2, 0), down(0, 1), across(1, 2)}},
		{[]string{"###", "#.#", "###"}, 1, []api.Domino{down(0, 0), across(1, 0), down(2, 1), across(0, 2)}},
		{[]string{"##.##", "##.##"}, 1, []api.Domino{across(0, 0), down(3, 0), down(4, 0), across(0, 1)}},
		{[]string{"##.##", "##.##"}, 2, []api.Domino{down(0, 0), down(1, 0), across(3, 0), across(3, 1)}},
		{[]string{"#", "#"}, 0, []api.Domino{down(0, 0)}},
		{[]string{".", "."}, 0, nil},
	} {
		if n, e := sample.Index(c.r, c.tiling); n != c.index || e != api.OK {
			t.Errorf("Index(%q, %v) = %d, %d, want %d", c.r, c.tiling, n, e, c.index)
		}
		if got, e := sample.At(c.r, c.index); !slices.Equal(got, c.tiling) || e != api.OK {
			t.Errorf("At(%q, %d) = %v, %d, want %v", c.r, c.index, got, e, c.tiling)
		}
	}
}

// outside are numbers of no tiling if there are n.
func outside(n int) []int {
	return []int{n, n + 1, 2*n + 1, 1 << 32, 1<<32 + n, math.MaxInt - 1, math.MaxInt, -1, -n - 1, -1 << 32, math.MinInt + 1, math.MinInt}
}

// checkOrder lists all tilings, sorts them as the document orders them, and compares; Tile is the first one.
func checkOrder(t *testing.T, r []string) {
	t.Helper()
	all := tilings(r)
	slices.SortFunc(all, func(a, b []api.Domino) int {
		if isBefore(a, b) {
			return -1
		}
		return 1
	})
	for i, tiling := range all {
		if n, e := sample.Index(r, tiling); n != i || e != api.OK {
			t.Errorf("Index(%q, %v) = %d, %d, want %d", r, tiling, n, e, i)
		}
		if got, e := sample.At(r, i); !slices.Equal(got, tiling) || e != api.OK {
			t.Errorf("At(%q, %d) = %v, %d, want %v", r, i, got, e, tiling)
		}
	}
	want := api.ErrRange
	if len(all) == 0 {
		want = api.ErrPlan
	} else if first, _ := domino.Tile(r); !slices.Equal(all[0], first) {
		t.Errorf("%q: Tile is %v, but first in the order %v", r, first, all[0])
	}
	for _, i := range outside(len(all)) {
		if got, e := sample.At(r, i); len(got) != 0 || e != want {
			t.Errorf("At(%q, %d) = %v, %d, want error %d", r, i, got, e, want)
		}
	}
}

func TestOrderOfAllTilings(t *testing.T) {
	for _, r := range append(severalTilings(), notPlain()...) {
		if n, _ := domino.Count(r); n <= 300 {
			checkOrder(t, r)
		}
	}
	for _, r := range everyRegion(4, 3) {
		checkOrder(t, r)
	}
}

func TestNoTilingAtAnyIndex(t *testing.T) {
	plain, others := noTilings()
	for _, r := range append(plain, others...) {
		for _, i := range append(outside(0), 0, 1) {
			if got, e := sample.At(r, i); len(got) != 0 || e != api.ErrPlan {
				t.Errorf("At(%q, %d) = %v, %d, want ErrPlan", r, i, got, e)
			}
		}
	}
}

// checkSomeOfOrder looks at neighbours in the order of very many tilings.
func checkSomeOfOrder(t *testing.T, r []string, random *rand.Rand) {
	t.Helper()
	count, _ := domino.Count(r)
	for range 10 {
		i := random.Intn(count)
		a, e := sample.At(r, i)
		if is, _ := domino.Is(r, a); !is || e != api.OK {
			t.Fatalf("At(%q, %d) = %v, %d", r, i, a, e)
		}
		if n, e := sample.Index(r, a); n != i || e != api.OK {
			t.Errorf("Index(%q, %v) = %d, %d, want %d", r, a, n, e, i)
		}
		b, e := sample.At(r, i+1)
		if i+1 < count && (e != api.OK || !isBefore(a, b) || isBefore(b, a)) {
			t.Errorf("%q: At(%d) is %v, and then comes %v, %d", r, i, a, b, e)
		}
	}
	for _, tiling := range someTilings(t, r, 4) {
		i, e := sample.Index(r, tiling)
		if got, f := sample.At(r, i); !slices.Equal(got, tiling) || e != api.OK || f != api.OK {
			t.Errorf("%q: Index of %v is %d, %d, but there is %v, %d", r, tiling, i, e, got, f)
		}
	}
}

func TestOrderOfLargeRegions(t *testing.T) {
	random := rand.New(rand.NewSource(81))
	ring := append(rectangle(8, 3), append([]string{"###..###", "###..###"}, rectangle(8, 3)...)...)
	for _, r := range append(largePlain(), ring) {
		checkSomeOfOrder(t, r, random)
		first, _ := sample.At(r, 0)
		if want, _ := domino.Tile(r); !slices.Equal(first, want) {
			t.Errorf("At(%q, 0) = %v, but Tile is %v", r, first, want)
		}
		count, _ := domino.Count(r)
		for _, i := range outside(count) {
			if got, e := sample.At(r, i); len(got) != 0 || e != api.ErrRange {
				t.Errorf("At(%q, %d) = %v, %d, want ErrRange", r, i, got, e)
			}
		}
	}
}

// TestLastOfChessboard: the last one of the 12988816 tilings is that of dominoes that are all Down.
func TestLastOfChessboard(t *testing.T) {
	var all []api.Domino
	for _, c := range grid(0, 0, 7, 3) {
		all = append(all, down(c.X, 2*c.Y))
	}
	if n, e := sample.Index(rectangle(8, 8), all); n != 12988815 || e != api.OK {
		t.Error(n, e)
	}
	if got, e := sample.At(rectangle(8, 8), 12988815); !slices.Equal(got, all) || e != api.OK {
		t.Error(got, e)
	}
}
