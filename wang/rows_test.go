package wang_test

// P7.3 (Rows), P7.6 (Product), P7.10 (transducers): rows are listed with all their Norths and Souths.

import (
	"math"
	"slices"
	"testing"

	"encaustic/api"
	"encaustic/wang"
)

func TestRowsExamples(t *testing.T) {
	for _, c := range []struct {
		set   []api.Wang
		north []int
		want  [][]int
	}{
		{tiles("0000"), []int{0}, [][]int{{0}}},
		{tiles("0000"), []int{1}, nil},
		{tiles("0000"), []int{0, 0, 7, 0}, nil},
		{tiles("0010"), []int{0, 0, 0, 0}, [][]int{{1, 1, 1, 1}}},
		{tiles("0123"), []int{0}, [][]int{{2}}},
		{tiles("0123"), []int{0, 0}, nil},
		{tiles("0010", "0000"), []int{0, 0}, [][]int{{0, 0}, {0, 1}, {1, 0}, {1, 1}}},
		{tiles("0070", "0010", "0171", "0001"), []int{0}, [][]int{{0}, {1}, {7}}},
		{tiles("0110", "0111"), []int{0, 0, 0}, [][]int{{1, 1, 1}}},
		{tiles("0120", "0111", "0131"), []int{0, 0}, [][]int{{1, 1}, {1, 3}, {2, 1}, {2, 3}, {3, 1}, {3, 3}}},
		{doubling(), []int{0, 1, 0}, [][]int{{1, 0, 0}, {1, 0, 1}}},
		{doubling(), []int{1, 1, 0}, [][]int{{1, 0, 0}, {1, 0, 1}}},
		{doubling(), []int{0, 2}, nil},
		{doubling(), []int{1, 0, 1, 1}, [][]int{{0, 1, 1, 0}, {0, 1, 1, 1}}},
		{notPeriodic(), []int{2, 2, 2, 2}, [][]int{{0, 0, 0, 0}, {2, 4, 4, 2}, {2, 4, 4, 4}, {4, 4, 4, 2}, {4, 4, 4, 4}}},
	} {
		if got, e := wang.Rows(c.set, c.north); !areSame(got, c.want) || e != api.OK {
			t.Errorf("%v: Rows of %v are %v, %d, want %v", c.set, c.north, got, e, c.want)
		}
	}
}

// norths calls f with the lists of w Norths of the set, and with one colour more than these.
func norths(set []api.Wang, w int, f func(north []int)) {
	most := 0
	for _, t := range set {
		most = max(most, t.North)
	}
	colours := min(most+2, api.MaxColour+1)
	if math.Pow(float64(colours), float64(w)) <= 700 {
		eachList(colours, w, f)
		return
	}
	for i := range 200 { // some of the many, and all colours at all places
		f([]int{i % colours, i / 3 % colours, i * i % colours, i * 5 / 7 % colours}[:w])
	}
}

func TestRowsAreListed(t *testing.T) {
	for _, set := range append(handMade(), randomSets(5, 60)...) {
		for w := 1; w <= 4; w++ {
			under := map[[4]int][]line{}
			for _, l := range slowLines(set, w) {
				key := [4]int(append(slices.Clip(l.north), 0, 0, 0))
				under[key] = append(under[key], l)
			}
			norths(set, w, func(north []int) {
				want := slowRows(under[[4]int(append(slices.Clip(north), 0, 0, 0))], north)
				if got, e := wang.Rows(set, north); !areSame(got, want) || e != api.OK {
					t.Errorf("%v: Rows of %v are %v, %d, want %v", set, north, got, e, want)
				}
			})
		}
	}
}

// TestRowsAreThoseOfGoodBoards: of all lists of Souths, those that the chapter says.
func TestRowsAreThoseOfGoodBoards(t *testing.T) {
	for _, set := range [][]api.Wang{doubling(), columns(2, 2), tiles("0102", "0201", "0012", "1021"), tiles("0110", "1001", "1111")} {
		for w := 1; w <= 4; w++ {
			eachList(2, w, func(north []int) {
				var want [][]int
				for _, board := range allBoards(set, w, 1) {
					l := line{}
					for _, i := range board[0] {
						l.north, l.south = append(l.north, set[i].North), append(l.south, set[i].South)
					}
					if slices.Equal(l.north, north) {
						want = append(want, l.south)
					}
				}
				if got, e := wang.Rows(set, north); !areSame(got, inOrder(want)) || e != api.OK {
					t.Errorf("%v: Rows of %v are %v, %d, want %v", set, north, got, e, inOrder(want))
				}
			})
		}
	}
}

func TestRowsErrors(t *testing.T) {
	for _, north := range [][]int{nil, {}, {0, 0, 0, 0, 0}, make([]int, 100000), {-1}, {8}, {0, 0, 8}, {0, 0, 0, -1}, {least}, {greatest, 0}, {1, 1 << 32}} {
		for _, set := range [][]api.Wang{tiles("0000"), free(), tiles("0008"), nil} {
			if got, e := wang.Rows(set, north); len(got) != 0 || e != api.ErrArg {
				t.Errorf("Rows of %.50v are %v, %d, want ErrArg", north, got, e)
			}
		}
	}
	for c := range 8 {
		if got, e := wang.Rows([]api.Wang{{North: c, South: 7 - c}}, []int{c, c, c, c}); !areSame(got, [][]int{{7 - c, 7 - c, 7 - c, 7 - c}}) || e != api.OK {
			t.Errorf("the colour %d: %v, %d", c, got, e)
		}
	}
}

func TestProductExamples(t *testing.T) {
	for _, c := range []struct {
		a, b, want []api.Wang
	}{
		{tiles("0000"), tiles("0000"), tiles("0000")},
		{tiles("0010"), tiles("0010"), nil},
		{tiles("0010"), tiles("1020"), tiles("0020")},
		{tiles("3717"), tiles("1525"), tiles("3020")},
		{tiles("3715"), tiles("1523"), tiles("3120")},
		{tiles("3517"), tiles("1523"), tiles("3021")},
		{tiles("3517"), tiles("1325"), tiles("3021")},
		{tiles("3717"), tiles("1325"), tiles("3021")},
		{tiles("0100", "0010"), tiles("0100", "1001"), tiles("0200", "0001")},
		{tiles("0000", "1010"), tiles("0110", "1001"), tiles("0110", "1001")},
		{tiles("0110", "1001"), tiles("0110", "1001"), tiles("0100", "1011")},
		{doubling(), doubling(), tiles("0000", "0110", "0201", "0311", "1002", "1112", "1203", "1313")},
		{tiles("0010", "0020"), tiles("1030", "2030"), tiles("0030")},
		{tiles("0010", "0020", "0021"), tiles("1030", "2030"), tiles("0030", "0031")},
		{tiles("0010", "1020"), tiles("2000", "1030", "1000"), tiles("0030", "0000", "1000")},
		{columns(4, 4), columns(4, 4), columns(4, 4)},
		{tiles("0101", "0202", "0707"), tiles("0777"), tiles("0070", "0171", "0272")},
	} {
		if got, e := wang.Product(c.a, c.b); !slices.Equal(got, c.want) || e != api.OK {
			t.Errorf("%v and %v: Product is %v, %d, want %v", c.a, c.b, got, e, c.want)
		}
	}
}

// slowProduct keeps the pairs as pairs, and counts how many come before each.
func slowProduct(a, b []api.Wang) ([]api.Wang, api.Errno) {
	type tile struct {
		north, south int
		east, west   [2]int
	}
	var list []tile
	used := map[[2]int]bool{}
	for _, s := range a {
		for _, t := range b {
			next := tile{s.North, t.South, [2]int{s.East, t.East}, [2]int{s.West, t.West}}
			if s.South == t.North {
				used[next.east], used[next.west] = true, true
				list = append(list, next)
			}
		}
	}
	number := func(p [2]int) int {
		before := 0
		for q := range used {
			if q[0] < p[0] || q[0] == p[0] && q[1] < p[1] {
				before++
			}
		}
		return before
	}
	var set []api.Wang
	for i, t := range list {
		if !slices.Contains(list[:i], t) {
			set = append(set, api.Wang{North: t.north, East: number(t.east), South: t.south, West: number(t.west)})
		}
	}
	if len(set) > 16 || len(used) > 8 {
		return nil, api.ErrFull
	}
	return set, api.OK
}

// factors are pairs of sets, with products of all sizes.
func factors() [][2][]api.Wang {
	sets := append(handMade(), randomSets(6, 150)...)
	small := append(randomSets(7, 100), doubling(), tiles("0000", "1010"), tiles("0110", "1001"), tiles("0102", "0201", "0012", "1021"))
	var all [][2][]api.Wang
	for i, a := range sets {
		all = append(all, [2][]api.Wang{a, sets[(i+1)%len(sets)]}, [2][]api.Wang{a, a}, [2][]api.Wang{sets[i*i%len(sets)], a})
	}
	for _, a := range small {
		for _, b := range small {
			if len(a) < 6 && len(b) < 6 {
				all = append(all, [2][]api.Wang{a, b})
			}
		}
	}
	return all
}

func TestProductIsPairs(t *testing.T) {
	found := map[api.Errno]int{}
	for _, c := range factors() {
		want, wantErrno := slowProduct(c[0], c[1])
		found[wantErrno]++
		if got, e := wang.Product(c[0], c[1]); !slices.Equal(got, want) || e != wantErrno {
			t.Errorf("%v and %v: Product is %v, %d, want %v, %d", c[0], c[1], got, e, want, wantErrno)
		}
	}
	if found[api.OK] < 100 || found[api.ErrFull] < 100 {
		t.Error(found)
	}
}

// bent has first tiles from the North 0 on, as many as there are, with the South 0, and one with the South 1.
func bent(count int) []api.Wang {
	return append(columns(count, 1), api.Wang{North: count, South: 1})
}

// forked has so many tiles with the North 0, and so many with the North 1.
func forked(count, other int) []api.Wang {
	set := columns(1, count)
	for s := range other {
		set = append(set, api.Wang{North: 1, South: s})
	}
	return set
}

// straight has so many tiles each of which can only follow itself.
func straight(count int) []api.Wang {
	var set []api.Wang
	for c := range count {
		set = append(set, api.Wang{East: c, West: c})
	}
	return set
}

func TestProductLimits(t *testing.T) {
	for _, c := range []struct {
		a, b  []api.Wang
		tiles int
		errno api.Errno
	}{
		{columns(8, 1), columns(1, 2), 16, api.OK},
		{columns(8, 1), columns(1, 3), 0, api.ErrFull},
		{columns(8, 1), columns(1, 8), 0, api.ErrFull},
		{bent(3), forked(4, 4), 16, api.OK},
		{bent(3), forked(4, 5), 0, api.ErrFull},
		{straight(8), straight(1), 8, api.OK},
		{straight(1), straight(8), 8, api.OK},
		{straight(4), straight(2), 8, api.OK},
		{straight(3), straight(3), 0, api.ErrFull},
		{straight(8), straight(2), 0, api.ErrFull},
		{append(straight(4), tiles("1313")...), append(straight(2), tiles("3737")...), 8, api.OK},
		{append(straight(4), tiles("1333")...), append(straight(2), tiles("3737")...), 0, api.ErrFull},
		{free(), free(), 0, api.ErrFull},
	} {
		if got, e := wang.Product(c.a, c.b); len(got) != c.tiles || e != c.errno {
			t.Errorf("%v and %v: Product is %v, %d, want %d tiles, %d", c.a, c.b, got, e, c.tiles, c.errno)
		}
	}
}

func TestProductErrors(t *testing.T) {
	for _, set := range notSets() {
		for _, other := range [][]api.Wang{tiles("0000"), free(), columns(8, 1)} {
			if got, e := wang.Product(set, other); len(got) != 0 || e != api.ErrArg {
				t.Errorf("%.50v and %v: Product is %v, %d, want ErrArg", set, other, got, e)
			}
			if got, e := wang.Product(other, set); len(got) != 0 || e != api.ErrArg {
				t.Errorf("%v and %.50v: Product is %v, %d, want ErrArg", other, set, got, e)
			}
		}
		if got, e := wang.Product(set, set); len(got) != 0 || e != api.ErrArg {
			t.Errorf("%.50v and itself: Product is %v, %d, want ErrArg", set, got, e)
		}
	}
}

// TestRowsOfProduct: one row of the product does what one row of a does, and then one of b.
func TestRowsOfProduct(t *testing.T) {
	tried := 0
	for _, c := range factors() {
		product, e := wang.Product(c[0], c[1])
		if e != api.OK || len(product) == 0 {
			continue
		}
		tried++
		for w := 1; w <= 1+tried%4; w++ {
			norths(c[0], w, func(north []int) {
				middle, e := wang.Rows(c[0], north)
				must(t, e)
				var want [][]int
				for _, m := range middle {
					rows, e := wang.Rows(c[1], m)
					must(t, e)
					want = append(want, rows...)
				}
				if got, e := wang.Rows(product, north); !areSame(got, inOrder(want)) || e != api.OK {
					t.Errorf("%v and %v: Rows of %v are %v, %d, want %v", c[0], c[1], north, got, e, inOrder(want))
				}
			})
		}
	}
	if tried < 100 {
		t.Error("tried", tried)
	}
}

// TestCountIsSumOverNorths goes on below each list of Norths in all ways, row by row.
func TestCountIsSumOverNorths(t *testing.T) {
	for _, set := range append(handMade(), randomSets(8, 60)...) {
		for w := 1; w <= 3; w++ {
			lines := slowLines(set, w)
			if len(lines) > 600 {
				continue
			}
			for h := 1; h <= 4; h++ {
				sum := 0
				var ways func(north []int, h int) int
				known := map[string]int{}
				ways = func(north []int, h int) int {
					key := string([]byte{byte(h), byte(north[0]), byte(north[w/2]), byte(north[w-1])})
					if n, ok := known[key]; ok {
						return n
					}
					count := 0
					for _, l := range lines {
						if !slices.Equal(l.north, north) {
							continue
						}
						if h == 1 {
							count++
						} else {
							count += ways(l.south, h-1)
						}
					}
					known[key] = count
					return count
				}
				eachList(8, w, func(north []int) { sum += ways(north, h) })
				if n, e := wang.Count(set, w, h); n != sum || e != api.OK {
					t.Errorf("%v: Count of %d by %d is %d, %d, want %d", set, w, h, n, e, sum)
				}
			}
		}
	}
}
