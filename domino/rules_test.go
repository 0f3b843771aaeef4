package domino_test

// ErrArg, P1 (no panic, for all arguments), P2 (the result depends only on the arguments), and the rule about memory.

import (
	"fmt"
	"slices"
	"sync"
	"testing"

	"encaustic/api"
	"encaustic/domino"
)

func TestWhatIsNoRegion(t *testing.T) {
	lists := [][]api.Domino{nil, {across(0, 0)}, {across(least, greatest)}}
	groups := [][]api.Cell{nil, cellList(0, 0), cellList(least, greatest)}
	for _, r := range notRegions() {
		tiling, e := domino.Tile(r)
		refusal, f := domino.Refute(r)
		if len(tiling) != 0 || e != api.ErrArg || len(refusal) != 0 || f != api.ErrArg {
			t.Errorf("%.20q: Tile %v, %d, Refute %v, %d", r, tiling, e, refusal, f)
		}
		n, e := domino.Count(r)
		k, f := domino.Kasteleyn(r)
		if n != 0 || e != api.ErrArg || k != 0 || f != api.ErrArg {
			t.Errorf("%.20q: Count %d, %d, Kasteleyn %d, %d", r, n, e, k, f)
		}
		parts, e := domino.Parts(r)
		n, f = domino.Holes(r)
		if len(parts) != 0 || e != api.ErrArg || n != 0 || f != api.ErrArg {
			t.Errorf("%.20q: Parts %q, %d, Holes %d, %d", r, parts, e, n, f)
		}
		if used, e := domino.Used(r); len(used) != 0 || e != api.ErrArg {
			t.Errorf("%.20q: Used %q, %d", r, used, e)
		}
		for i := range lists {
			isTiling, e := domino.Is(r, lists[i])
			isRefusal, f := domino.Refutes(r, groups[i])
			if isTiling || e != api.ErrArg || isRefusal || f != api.ErrArg {
				t.Errorf("%.20q: Is %v, %d, Refutes %v, %d", r, isTiling, e, isRefusal, f)
			}
		}
	}
}

func TestMeasuresOfRegions(t *testing.T) {
	for w := 1; w <= 10; w++ {
		for h := 1; h <= 10; h++ {
			want := api.OK
			if w > api.MaxSide || h > api.MaxSide {
				want = api.ErrArg
			}
			if _, e := domino.Count(blank(w, h)); e != want {
				t.Errorf("%d by %d: %d", w, h, e)
			}
		}
	}
}

// ints are numbers inside and outside all limits.
func ints() []int {
	return []int{least, least + 1, -1 << 32, -9, -8, -1, 0, 1, 2, 7, 8, 9, 63, 64, 1 << 32, 1 << 61, greatest - 1, greatest}
}

func TestNoArgumentPanics(t *testing.T) {
	regions := append(notRegions(), blank(1, 1), rectangle(1, 1), rectangle(8, 8), diamond(), []string{"##", "##"})
	for _, r := range regions {
		everything(r)
		for _, x := range ints() {
			for _, y := range ints() {
				domino.Refutes(r, cellList(x, y))
				domino.Refutes(r, cellList(0, 0, x, y))
				domino.Is(r, []api.Domino{across(x, y)})
				domino.Is(r, []api.Domino{down(x, y)})
				domino.Is(r, []api.Domino{across(0, 0), down(x, y)})
			}
		}
		domino.Is(r, make([]api.Domino, 100000))
		domino.Refutes(r, make([]api.Cell, 100000))
	}
}

// everything writes down all results for a region.
func everything(r []string) string {
	tiling, e := domino.Tile(r)
	refusal, f := domino.Refute(r)
	text := fmt.Sprintln(tiling, e, refusal, f)
	text += fmt.Sprintln(domino.Is(r, tiling))
	text += fmt.Sprintln(domino.Refutes(r, refusal))
	text += fmt.Sprintln(domino.Count(r))
	text += fmt.Sprintln(domino.Kasteleyn(r))
	text += fmt.Sprintln(domino.Parts(r))
	text += fmt.Sprintln(domino.Holes(r))
	return text + fmt.Sprintln(domino.Used(r))
}

// TestResultsDependOnArguments calls everything again, backwards and in several goroutines at once.
func TestResultsDependOnArguments(t *testing.T) {
	regions := largeRegions()[:80]
	first := make([]string, len(regions))
	for i, r := range regions {
		first[i] = everything(r)
	}
	for i := len(regions) - 1; i >= 0; i-- {
		if again := everything(regions[i]); again != first[i] {
			t.Errorf("%q: first\n%sand then\n%s", regions[i], first[i], again)
		}
	}
	var group sync.WaitGroup
	for i, r := range regions {
		group.Go(func() {
			if again := everything(slices.Clone(r)); again != first[i] {
				t.Errorf("%q: first\n%sand in a goroutine\n%s", r, first[i], again)
			}
		})
	}
	group.Wait()
}

// TestArgumentsStay gives lists with room behind them, which must stay as it is too.
func TestArgumentsStay(t *testing.T) {
	for _, r := range [][]string{{"##", "##"}, {"#.", ".#"}, {"##.#", "...#"}, diamond(), blank(2, 2)} {
		rows := append(slices.Clone(r), "behind")
		everything(rows[:len(r)])
		list := []api.Domino{across(0, 0), across(0, 1), across(9, 9)}
		cells := cellList(0, 0, 1, 1, 9, 9)
		domino.Is(rows[:len(r)], list[:2])
		domino.Refutes(rows[:len(r)], cells[:2])
		if !slices.Equal(rows, append(slices.Clone(r), "behind")) {
			t.Errorf("%q: changed to %q", r, rows)
		}
		if !slices.Equal(list, []api.Domino{across(0, 0), across(0, 1), across(9, 9)}) || !slices.Equal(cells, cellList(0, 0, 1, 1, 9, 9)) {
			t.Errorf("%q: changed to %v, %v", r, list, cells)
		}
	}
}

// spoilAll overwrites a list and the room behind it.
func spoilAll[T any](list []T, with T) {
	list = list[:cap(list)]
	for i := range list {
		list[i] = with
	}
}

// TestResultsAreNewMemory spoils one result, and looks at one from before and one from after that.
func TestResultsAreNewMemory(t *testing.T) {
	for _, r := range [][]string{{"##.##", "##.##"}, {"#.#", "###", "#.#", "..#"}, {"##.#", "...#"}, diamond()} {
		want := everything(r)
		tiling, _ := domino.Tile(r)
		spoilAll(tiling, across(9, 9))
		refusal, _ := domino.Refute(r)
		spoilAll(refusal, api.Cell{X: 9, Y: 9})
		for _, f := range []func([]string) ([][]string, api.Errno){domino.Parts, domino.Used} {
			before, _ := f(r)
			text := fmt.Sprint(before)
			spoiled, _ := f(r)
			for _, rows := range spoiled {
				spoilAll(rows, "spoiled")
			}
			spoilAll(spoiled, nil)
			if fmt.Sprint(before) != text {
				t.Errorf("%q: %s has become %v", r, text, before)
			}
		}
		if again := everything(r); again != want {
			t.Errorf("%q: first\n%sand then\n%s", r, want, again)
		}
	}
}

// TestListsOfOneResultAreApart spoils one region of a result, with the room behind it.
func TestListsOfOneResultAreApart(t *testing.T) {
	r := []string{"##.##", "##.##"}
	for _, f := range []func([]string) ([][]string, api.Errno){domino.Parts, domino.Used} {
		want, _ := f(r)
		got, _ := f(r)
		spoilAll(got[0], "spoiled")
		if !slices.Equal(got[1], want[1]) || !slices.Equal(r, []string{"##.##", "##.##"}) {
			t.Errorf("%q, %q", got, r)
		}
		if got, _ = f(r); len(got) != 2 {
			t.Fatalf("%q", got)
		}
		spoilAll(got[1], "spoiled")
		if !slices.Equal(got[0], want[0]) {
			t.Errorf("%q", got)
		}
	}
}
