package sample_test

// The errors that several functions have, and their order; P1 (no panic, for all arguments), P2 (the result depends only
// on the arguments), and the rule about memory.

import (
	"fmt"
	"math"
	"runtime"
	"slices"
	"sync"
	"testing"
	"time"

	"encaustic/api"
	"encaustic/domino"
	"encaustic/sample"
)

// ints are numbers inside and outside all limits.
func ints() []int {
	return []int{math.MinInt, math.MinInt + 1, -1 << 32, -9, -1, 0, 1, 2, 3, 8, 9, 63, 1 << 32, 1<<32 + 1, 1 << 61, math.MaxInt - 1, math.MaxInt}
}

// call is what a function returned: its result, written down, and whether that is the zero value.
type call struct {
	name, result string
	zero         bool
	errno        api.Errno
}

// calls calls all functions.
func calls(r []string, tiling []api.Domino, moves []api.Nudge, seed uint64, n int) []call {
	var list []call
	add := func(name string, result any, zero bool, e api.Errno) {
		list = append(list, call{name, fmt.Sprint(result), zero, e})
	}
	index, e := sample.Index(r, tiling)
	add("Index", index, index == 0, e)
	at, e := sample.At(r, n)
	add("At", at, len(at) == 0, e)
	nudged, e := sample.Nudged(r, tiling, moves)
	add("Nudged", nudged, len(nudged) == 0, e)
	end, after, e := sample.Met(r, moves)
	add("Met", fmt.Sprint(end, after), len(end) == 0 && after == 0, e)
	end, k, e := sample.Past(r, moves)
	add("Past", fmt.Sprint(end, k), len(end) == 0 && k == 0, e)
	points, e := sample.Points(r)
	add("Points", points, len(points) == 0, e)
	bits, e := sample.Bits(r, seed, n)
	add("Bits", bits, len(bits) == 0, e)
	drawn, e := sample.Draw(r, seed)
	add("Draw", drawn, len(drawn) == 0, e)
	return list
}

// wantErrors wants of each function that is named just that error, and zero values with errors.
func wantErrors(t *testing.T, r []string, list []call, want map[string]api.Errno) {
	t.Helper()
	for _, c := range list {
		errno, ok := want[c.name]
		if ok && c.errno != errno || c.errno != api.OK && !c.zero {
			t.Errorf("%.40q: %s is %.100s, %d, want error %d", r, c.name, c.result, c.errno, errno)
		}
	}
}

// someLists are lists of dominoes that are no tilings of any plain region, nor of two by two.
func someLists() [][]api.Domino {
	return [][]api.Domino{
		nil,
		{},
		{across(0, 1), across(0, 0)},
		{across(0, 0), across(0, 0)},
		{across(0, 0), down(1, 0)},
		{down(1, 0), down(0, 0)},
		{across(0, 0), across(0, 1), across(0, 1)},
		{across(-1, 0), across(0, 1)},
		{down(0, 0), down(1, 1)},
		{across(math.MinInt, math.MaxInt), across(math.MaxInt, math.MinInt)},
		make([]api.Domino, 100000),
	}
}

// someMoves are lists of moves, as long as allowed and longer.
func someMoves() [][]api.Nudge {
	return [][]api.Nudge{nil, {up(1, 1)}, make([]api.Nudge, api.MaxMoves), make([]api.Nudge, api.MaxMoves+1)}
}

func TestErrorOfNoRegion(t *testing.T) {
	want := map[string]api.Errno{}
	for _, c := range calls(nil, nil, nil, 0, 0) {
		want[c.name] = api.ErrArg
	}
	for _, r := range notRegions() {
		for _, list := range someLists() {
			for _, moves := range someMoves() {
				wantErrors(t, r, calls(r, list, moves, 0, -1), want)
				wantErrors(t, r, calls(r, list, moves, 1, 0), want)
			}
		}
	}
}

// TestErrorOfRegionsThatAreNotPlain: it comes before those of moves and numbers, and of Nudged after that of a list that
// is no tiling.
func TestErrorOfRegionsThatAreNotPlain(t *testing.T) {
	plain := map[string]api.Errno{"Met": api.ErrState, "Past": api.ErrState, "Points": api.ErrState, "Bits": api.ErrState}
	for _, r := range notPlain() {
		for _, moves := range someMoves() {
			for _, list := range append(someLists(), []api.Domino{across(0, 0)}) {
				want := api.ErrArg
				if is, _ := domino.Is(r, list); is {
					want = api.ErrState
				}
				got := calls(r, list, moves, 7, -1)
				wantErrors(t, r, got, plain)
				wantErrors(t, r, got, map[string]api.Errno{"Nudged": want})
			}
			tiling, e := domino.Tile(r)
			if e == api.OK {
				wantErrors(t, r, calls(r, tiling, moves, 7, 0), map[string]api.Errno{"Nudged": api.ErrState, "Index": api.OK, "At": api.OK, "Draw": api.OK})
			} else {
				wantErrors(t, r, calls(r, tiling, moves, 7, 0), map[string]api.Errno{"At": api.ErrPlan, "Draw": api.ErrPlan})
			}
		}
	}
}

// TestErrorOfNoTilingAtAll: it comes after that of a region that is not plain, and before those of moves and numbers.
func TestErrorOfNoTilingAtAll(t *testing.T) {
	plain, others := noTilings()
	for _, moves := range someMoves() {
		for _, n := range []int{-1, 0, 1} {
			for _, r := range plain {
				want := map[string]api.Errno{"Index": api.ErrArg, "Nudged": api.ErrArg, "At": api.ErrPlan, "Draw": api.ErrPlan, "Met": api.ErrPlan, "Past": api.ErrPlan, "Points": api.OK}
				wantErrors(t, r, calls(r, nil, moves, 7, n), want)
			}
			for _, r := range others {
				want := map[string]api.Errno{"Index": api.ErrArg, "Nudged": api.ErrArg, "At": api.ErrPlan, "Draw": api.ErrPlan, "Met": api.ErrState, "Past": api.ErrState, "Points": api.ErrState, "Bits": api.ErrState}
				wantErrors(t, r, calls(r, nil, moves, 7, n), want)
			}
		}
	}
}

// TestErrorOfListsThatAreNoTilings: it comes before that of too many moves.
func TestErrorOfListsThatAreNoTilings(t *testing.T) {
	for _, r := range [][]string{rectangle(2, 2), rectangle(3, 2), rectangle(8, 8), diamond()} {
		for _, list := range someLists() {
			for _, moves := range someMoves() {
				wantErrors(t, r, calls(r, list, moves, 7, 0), map[string]api.Errno{"Index": api.ErrArg, "Nudged": api.ErrArg, "At": api.OK, "Points": api.OK, "Draw": api.OK})
			}
		}
	}
}

// TestLimitComesBeforeTheBound: it is not asked whether the moves suffice.
func TestLimitComesBeforeTheBound(t *testing.T) {
	tiling := []api.Domino{across(0, 0), across(0, 1)}
	still := make([]api.Nudge, api.MaxMoves)
	wantErrors(t, rectangle(2, 2), calls(rectangle(2, 2), tiling, still, 7, 0), map[string]api.Errno{"Nudged": api.OK, "Met": api.ErrBound, "Past": api.ErrBound})
	limit := map[string]api.Errno{"Nudged": api.ErrLimit, "Met": api.ErrLimit, "Past": api.ErrLimit}
	wantErrors(t, rectangle(2, 2), calls(rectangle(2, 2), tiling, append(still, up(1, 1)), 7, 0), limit)
	wantErrors(t, rectangle(2, 1), calls(rectangle(2, 1), tiling[:1], append(still, up(1, 1)), 7, 0), limit)
}

func TestNoArgumentPanics(t *testing.T) {
	plain, others := noTilings()
	regions := slices.Concat(notRegions(), notPlain(), plain, others, [][]string{rectangle(2, 2), rectangle(8, 8), diamond()})
	for _, r := range regions {
		tiling, _ := domino.Tile(r)
		for _, x := range ints() {
			moves := []api.Nudge{up(x, 1), fall(1, x), up(x, x)}
			calls(r, tiling, moves, uint64(x), x)
			calls(r, []api.Domino{across(x, 0), down(0, x), across(x, x)}, moves, uint64(x), x)
		}
	}
}

// everything writes down all results for a region.
func everything(r []string, seed uint64) string {
	tiling, _ := sample.Draw(r, seed)
	moves, _ := sample.Bits(r, seed, 3000)
	text := ""
	for _, c := range calls(r, tiling, moves, seed, int(seed)) {
		text += c.name + " " + c.result + fmt.Sprintln(c.errno)
	}
	return text
}

// TestResultsDependOnArguments calls everything again, backwards, with any number of processors, and in several
// goroutines at once.
func TestResultsDependOnArguments(t *testing.T) {
	regions := append(largePlain(), rectangle(4, 4), rectangle(2, 2), rectangle(2, 1))
	var first []string
	for i, r := range regions {
		first = append(first, everything(r, uint64(i)))
	}
	for processors := range 4 {
		old := runtime.GOMAXPROCS(processors + 1)
		for i := len(regions) - 1; i >= 0; i-- {
			if again := everything(regions[i], uint64(i)); again != first[i] {
				t.Errorf("%q: first\n%sand then\n%s", regions[i], first[i], again)
			}
		}
		runtime.GOMAXPROCS(old)
	}
	var group sync.WaitGroup
	for i, r := range regions {
		group.Go(func() {
			if again := everything(slices.Clone(r), uint64(i)); again != first[i] {
				t.Errorf("%q: first\n%sand in a goroutine\n%s", r, first[i], again)
			}
		})
	}
	group.Wait()
}

// TestWalkersAreJoined counts goroutines: one that has called Done may be there a little longer, but not for long.
func TestWalkersAreJoined(t *testing.T) {
	before := runtime.NumGoroutine()
	for _, moves := range append(someMoves(), manyMoves(1000)) {
		for range 20 {
			sample.Met(rectangle(2, 2), moves)
			sample.Past(rectangle(2, 2), moves)
		}
	}
	for range 1000 {
		if runtime.NumGoroutine() <= before {
			return
		}
		time.Sleep(time.Millisecond)
	}
	t.Errorf("%d goroutines, and then %d", before, runtime.NumGoroutine())
}

// TestArgumentsStay gives lists with room behind them, which must stay as it is too.
func TestArgumentsStay(t *testing.T) {
	for _, r := range [][]string{rectangle(2, 2), rectangle(4, 4), diamond(), {".##", "###", "###"}} {
		tiling := someTilings(t, r, 2)[1]
		moves, _ := sample.Bits(r, 5, 2000)
		rows, dominoes, nudges := append(slices.Clone(r), "behind"), append(tiling, across(9, 9)), append(moves, up(9, 9))
		given := fmt.Sprint(rows, dominoes, nudges)
		for n := range 3 {
			calls(rows[:len(r)], dominoes[:len(tiling)], nudges[:len(moves)], 5, n)
		}
		if now := fmt.Sprint(rows, dominoes, nudges); now != given {
			t.Errorf("%s has become %s", given, now)
		}
	}
}

// spoil overwrites a list and the room behind it.
func spoil[T any](list []T, with T) {
	list = list[:cap(list)]
	for i := range list {
		list[i] = with
	}
}

// TestResultsAreNewMemory spoils results, and looks at the arguments, and at what comes of them again.
func TestResultsAreNewMemory(t *testing.T) {
	for _, r := range [][]string{rectangle(2, 1), rectangle(4, 4), diamond()} {
		tiling := someTilings(t, r, 2)[1]
		moves := slices.Concat(innerMoves(t, newRandom(), r, 200), sweep(t, r, true, 100))
		given, want := fmt.Sprint(r, tiling, moves), fmt.Sprint(calls(r, tiling, moves, 5, 0))
		for _, f := range []func() ([]api.Domino, api.Errno){
			func() ([]api.Domino, api.Errno) { return sample.At(r, 0) },
			func() ([]api.Domino, api.Errno) { return sample.Nudged(r, tiling, nil) },
			func() ([]api.Domino, api.Errno) { return sample.Nudged(r, tiling, moves) },
			func() ([]api.Domino, api.Errno) { return sample.Draw(r, 5) },
			func() ([]api.Domino, api.Errno) { end, _, e := sample.Met(r, moves); return end, e },
			func() ([]api.Domino, api.Errno) { end, _, e := sample.Past(r, moves); return end, e },
		} {
			kept, e := f()
			text := fmt.Sprint(kept)
			spoiled, _ := f()
			spoil(spoiled, across(9, 9))
			if fmt.Sprint(kept) != text || e != api.OK {
				t.Errorf("%q: %s, %d has become %v", r, text, e, kept)
			}
		}
		points, _ := sample.Points(r)
		spoil(points, api.Cell{X: 9, Y: 9})
		bits, _ := sample.Bits(r, 5, 100)
		spoil(bits, up(9, 9))
		if again := fmt.Sprint(calls(r, tiling, moves, 5, 0)); again != want || fmt.Sprint(r, tiling, moves) != given {
			t.Errorf("%s: first\n%sand then, of %v, %v\n%s", given, want, tiling, moves, again)
		}
	}
}
