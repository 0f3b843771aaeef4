package wang_test

// P7.1 (Good), P7.2 (Fill, Count, Closed), P7.8 (counting): boards are tried one by one, or counted cell by cell.

import (
	"math/rand"
	"testing"

	"encaustic/api"
	"encaustic/wang"
)

func TestGoodExamples(t *testing.T) {
	shift := tiles("0110", "1001")
	for _, c := range []struct {
		set          []api.Wang
		board        [][]int
		good, closed bool
	}{
		{tiles("0000"), [][]int{{0}}, true, true},
		{tiles("0100"), [][]int{{0}}, true, false},
		{tiles("0010"), [][]int{{0}}, true, false},
		{tiles("0000"), [][]int{{0, 0, 0, 0}, {0, 0, 0, 0}, {0, 0, 0, 0}, {0, 0, 0, 0}}, true, true},
		{tiles("0000", "1010"), [][]int{{0, 1}, {0, 1}}, true, true},
		{tiles("0000", "1010"), [][]int{{0, 1}, {1, 1}}, false, false},
		{tiles("0000", "0101"), [][]int{{0, 0}, {1, 1}}, true, true},
		{tiles("0000", "0101"), [][]int{{0, 1}, {1, 1}}, false, false},
		{shift, [][]int{{0, 1}, {1, 0}}, true, true},
		{shift, [][]int{{0, 1, 0}, {1, 0, 1}}, true, false},
		{shift, [][]int{{0, 1}, {1, 0}, {0, 1}}, true, false},
		{shift, [][]int{{0, 1, 0}}, true, false},
		{shift, [][]int{{0}, {1}, {0}}, true, false},
		{shift, [][]int{{0, 0}, {0, 0}}, false, false},
		{shift, [][]int{{0, 1}, {0, 1}}, false, false},
		{tiles("0110", "1101", "1000"), [][]int{{0, 1, 1}, {1, 1, 0}}, false, false},
		{tiles("0000", "0001"), [][]int{{1, 0}}, true, false},
		{tiles("0000", "0001"), [][]int{{0, 1}}, false, false},
	} {
		good, closed, e := wang.Good(c.set, c.board)
		if good != c.good || closed != c.closed || e != api.OK {
			t.Errorf("%v, %v: Good is %t, %t, %d", c.set, c.board, good, closed, e)
		}
	}
}

// TestGoodOfAllBoards: of each board that can be tried.
func TestGoodOfAllBoards(t *testing.T) {
	for _, set := range manySets() {
		eachSize(func(w, h int) {
			if !areFew(set, w, h) {
				return
			}
			eachList(len(set), w*h, func(list []int) {
				checkGood(t, set, cut(list, w))
			})
		})
	}
}

func checkGood(t *testing.T, set []api.Wang, board [][]int) {
	t.Helper()
	wantGood, wantClosed := agree(set, board)
	if good, closed, e := wang.Good(set, board); good != wantGood || closed != wantClosed || e != api.OK {
		t.Errorf("%v, %v: Good is %t, %t, %d, want %t, %t", set, board, good, closed, e, wantGood, wantClosed)
	}
}

// TestGoodOfAlmostGoodBoards changes one tile of a good board, or none.
func TestGoodOfAlmostGoodBoards(t *testing.T) {
	r := rand.New(rand.NewSource(2))
	for _, set := range manySets() {
		eachSize(func(w, h int) {
			board := slowFill(set, w, h)
			if board == nil {
				return
			}
			checkGood(t, set, board)
			for y := range h {
				for x := range w {
					kept := board[y][x]
					board[y][x] = r.Intn(len(set))
					checkGood(t, set, board)
					board[y][x] = kept
				}
			}
		})
	}
}

// notBoards are no boards of three tiles.
func notBoards() [][][]int {
	all := [][][]int{
		nil,
		{},
		{{}},
		{nil},
		{{}, {}},
		{{0}, {}},
		{{}, {0}},
		{{0, 1}, {0}},
		{{0}, {0, 1}},
		{{0, 0}, {0, 0}, {0, 0, 0}},
		{{0, 0, 0, 0, 0}},
		{{0}, {0}, {0}, {0}, {0}},
		{{0, 0, 0, 0}, {0, 0, 0, 0}, {0, 0, 0, 0}, {0, 0, 0, 0, 0}},
		{{0, 0}, {0, 0}, {0, 0}, {0, 0}, {}},
		make([][]int, 4),
		make([][]int, 100000),
		{make([]int, 100000)},
	}
	for _, n := range []int{least, -1 << 32, -1, 3, 4, 16, 1 << 32, greatest} {
		all = append(all, [][]int{{n}}, [][]int{{0, n}}, [][]int{{n, 0}, {0, 0}}, [][]int{{0, 0}, {0, n}}, [][]int{{1, 2, 0, n}})
	}
	return all
}

func TestGoodErrors(t *testing.T) {
	for _, set := range [][]api.Wang{tiles("0000", "1010", "0101"), tiles("0000", "1111", "2222")} {
		for _, board := range notBoards() {
			if good, closed, e := wang.Good(set, board); good || closed || e != api.ErrArg {
				t.Errorf("%.80v: Good is %t, %t, %d, want ErrArg", board, good, closed, e)
			}
		}
	}
	if _, _, e := wang.Good(tiles("0000", "1010", "0101", "1111"), [][]int{{3}}); e != api.OK {
		t.Error("the fourth of four tiles:", e)
	}
}

func TestFillExamples(t *testing.T) {
	for _, c := range []struct {
		set  []api.Wang
		w, h int
		want [][]int
	}{
		{tiles("0000"), 1, 1, [][]int{{0}}},
		{tiles("0000", "1010"), 2, 3, [][]int{{0, 0}, {0, 0}, {0, 0}}},
		{tiles("0110", "1001"), 3, 2, [][]int{{0, 1, 0}, {1, 0, 1}}},
		{tiles("0010", "1000", "1010"), 1, 3, [][]int{{0}, {1}, {0}}},
		{tiles("1000", "0000", "0010"), 1, 4, [][]int{{0}, {1}, {1}, {1}}},
		{tiles("0001", "0100", "0101"), 3, 1, [][]int{{0, 1, 0}}},
		{tiles("0001", "0101", "0100"), 3, 1, [][]int{{0, 2, 0}}},
		{tiles("0010", "1020", "2030"), 2, 3, [][]int{{0, 0}, {1, 1}, {2, 2}}},
		{tiles("0010", "1020", "2030"), 2, 4, nil},
		{tiles("0100"), 2, 1, nil},
		{tiles("0110"), 1, 1, [][]int{{0}}},
		{notPeriodic(), 2, 2, [][]int{{0, 0}, {4, 2}}},
	} {
		want := api.OK
		if c.want == nil {
			want = api.ErrPlan
		}
		if got, e := wang.Fill(c.set, c.w, c.h); !areSame(got, c.want) || e != want {
			t.Errorf("%v: Fill of %d by %d is %v, %d, want %v", c.set, c.w, c.h, got, e, c.want)
		}
	}
}

// TestSlowWays compares the slow ways with all boards, where these are few.
func TestSlowWays(t *testing.T) {
	for _, set := range manySets() {
		eachSize(func(w, h int) {
			if !areFew(set, w, h) {
				return
			}
			closed := 0
			all := allBoards(set, w, h)
			for _, board := range all {
				if _, is := agree(set, board); is {
					closed++
				}
			}
			if n := slowCount(set, w, h, false); n != len(all) {
				t.Errorf("%v: %d boards of %d by %d, and counted %d", set, len(all), w, h, n)
			}
			if n := slowCount(set, w, h, true); n != closed {
				t.Errorf("%v: %d closed boards of %d by %d, and counted %d", set, closed, w, h, n)
			}
			if first := slowFill(set, w, h); len(all) == 0 && first != nil || len(all) > 0 && !areSame(first, all[0]) {
				t.Errorf("%v: of %d boards of %d by %d %v is the first", set, len(all), w, h, first)
			}
		})
	}
}

func TestFillIsFirstBoard(t *testing.T) {
	for _, set := range manySets() {
		eachSize(func(w, h int) {
			want, wantErrno := slowFill(set, w, h), api.OK
			if want == nil {
				wantErrno = api.ErrPlan
			}
			if got, e := wang.Fill(set, w, h); !areSame(got, want) || e != wantErrno {
				t.Errorf("%v: Fill of %d by %d is %v, %d, want %v, %d", set, w, h, got, e, want, wantErrno)
			}
		})
	}
}

func TestCountExamples(t *testing.T) {
	for _, c := range []struct {
		set                 []api.Wang
		w, h, count, closed int
	}{
		{tiles("0000"), 4, 4, 1, 1},
		{tiles("0000", "1010"), 2, 3, 4, 4},
		{tiles("0000", "1010"), 4, 1, 16, 16},
		{tiles("0010"), 1, 1, 1, 0},
		{tiles("0010"), 1, 2, 0, 0},
		{tiles("0110", "1001"), 2, 2, 2, 2},
		{tiles("0110", "1001"), 2, 3, 2, 0},
		{tiles("0110", "1001"), 1, 1, 2, 0},
		{tiles("0101", "0111"), 1, 1, 2, 1},
		{tiles("0123"), 1, 1, 1, 0},
		{tiles("0123"), 2, 1, 0, 0},
		{columns(2, 2), 1, 1, 4, 2},
		{columns(2, 2), 3, 2, 512, 64},
		{columns(1, 8), 2, 1, 64, 1},
		{columns(1, 8), 2, 2, 64, 1},
		{stairs(4), 4, 4, 1, 0},
		{stairs(4), 2, 1, 16, 0},
		{wheel(4, 4), 4, 4, 1 << 16, 1 << 16},
		{wheel(4, 4), 3, 4, 1 << 14, 0},
		{free(), 1, 1, 16, 4},
		{free(), 2, 2, 1 << 12, 1 << 8},
		{free(), 4, 4, 1 << 40, 1 << 32},
		{free(), 3, 4, 1 << 31, 1 << 24},
		{free(), 4, 3, 1 << 31, 1 << 24},
		{columns(4, 4), 4, 4, 1 << 40, 1 << 32},
		{columns(4, 4), 4, 3, 1 << 32, 1 << 24},
		{columns(4, 4), 3, 4, 1 << 30, 1 << 24},
		{turned(columns(4, 4)), 4, 4, 1 << 40, 1 << 32},
		{columns(8, 2), 4, 4, 1 << 28, 1 << 16},
	} {
		if n, e := wang.Count(c.set, c.w, c.h); n != c.count || e != api.OK {
			t.Errorf("%v: Count of %d by %d is %d, %d, want %d", c.set, c.w, c.h, n, e, c.count)
		}
		if n, e := wang.Closed(c.set, c.w, c.h); n != c.closed || e != api.OK {
			t.Errorf("%v: Closed of %d by %d is %d, %d, want %d", c.set, c.w, c.h, n, e, c.closed)
		}
	}
}

// TestCountsAreCellByCell compares all measures.
func TestCountsAreCellByCell(t *testing.T) {
	for _, set := range manySets() {
		eachSize(func(w, h int) {
			if want := slowCount(set, w, h, false); want > api.MaxCount {
				t.Errorf("%v has %d boards of %d by %d", set, want, w, h)
			} else if n, e := wang.Count(set, w, h); n != want || e != api.OK {
				t.Errorf("%v: Count of %d by %d is %d, %d, want %d", set, w, h, n, e, want)
			}
			if n, e := wang.Closed(set, w, h); w*h <= 9 && n != slowCount(set, w, h, true) || e != api.OK {
				t.Errorf("%v: Closed of %d by %d is %d, %d, want %d", set, w, h, n, e, slowCount(set, w, h, true))
			}
		})
	}
}

// TestClosedOfLargeBoards has sets with few ways, and one whose columns have nothing to do with one another.
func TestClosedOfLargeBoards(t *testing.T) {
	for _, set := range randomSets(3, 150) {
		if slowCount(set, 4, 3, false) > 100000 {
			continue
		}
		for _, size := range [][2]int{{4, 3}, {3, 4}, {4, 4}} {
			want := slowCount(set, size[0], size[1], true)
			if n, e := wang.Closed(set, size[0], size[1]); n != want || e != api.OK {
				t.Errorf("%v: Closed of %v is %d, %d, want %d", set, size, n, e, want)
			}
		}
	}
	for h := 1; h <= 4; h++ {
		column := slowCount(pairs(), 1, h, true)
		want := column * column * column * column
		if n, e := wang.Closed(pairs(), 4, h); n != want || e != api.OK {
			t.Errorf("Closed of 4 by %d is %d, %d, want %d", h, n, e, want)
		}
	}
}

// TestCountOfTurnedAndMirrored also compares a set that is turned by 180 degrees, and one with North and South exchanged.
func TestCountOfTurnedAndMirrored(t *testing.T) {
	for _, set := range lightSets(4, 60) {
		eachSize(func(w, h int) {
			count, e := wang.Count(set, w, h)
			must(t, e)
			closed, e := wang.Closed(set, w, h)
			must(t, e)
			half := turned(turned(set))
			for _, c := range []struct {
				set  []api.Wang
				w, h int
			}{
				{turned(set), h, w},
				{half, w, h},
				{turned(half), h, w},
				{mirrored(set), w, h},
				{mirrored(half), w, h},
			} {
				if n, e := wang.Count(c.set, c.w, c.h); n != count || e != api.OK {
					t.Errorf("%v has %d of %d by %d, and %v has %d, %d", set, count, w, h, c.set, n, e)
				}
				if n, e := wang.Closed(c.set, c.w, c.h); n != closed || e != api.OK {
					t.Errorf("%v has %d closed of %d by %d, and %v has %d, %d", set, closed, w, h, c.set, n, e)
				}
			}
		})
	}
}

func TestCountAndFill(t *testing.T) {
	for _, set := range lightSets(24, 200) {
		eachSize(func(w, h int) {
			count, e := wang.Count(set, w, h)
			must(t, e)
			closed, e := wang.Closed(set, w, h)
			must(t, e)
			if closed > count {
				t.Errorf("%v: Closed of %d by %d is %d, and Count %d", set, w, h, closed, count)
			}
			board, e := wang.Fill(set, w, h)
			if (e == api.OK) != (count > 0) || (e == api.ErrPlan) != (count == 0) {
				t.Errorf("%v: Fill of %d by %d is %v, %d, and Count %d", set, w, h, board, e, count)
			}
			if good, _, f := wang.Good(set, board); e == api.OK && (!good || f != api.OK) {
				t.Errorf("%v: Fill of %d by %d is %v, which Good says is %t, %d", set, w, h, board, good, f)
			}
		})
	}
}
