package weight_test

// The errors that all functions have, P1 (no panic, for all arguments), P2 (the result depends only on the arguments),
// and the rule about memory.

import (
	"fmt"
	"reflect"
	"slices"
	"strings"
	"sync"
	"testing"

	"encaustic/api"
	"encaustic/weight"
)

// call is what a function returned: its result, written down, and whether that is the zero value.
type call struct {
	name, result string
	zero         bool
	errno        api.Errno
}

// callOf takes the result of a function: a list, a number, a bool or weights.
func callOf(name string, result any, e api.Errno) call {
	v := reflect.ValueOf(result)
	w, isWeights := result.(api.Weights)
	zero := v.Kind() == reflect.Slice && v.Len() == 0 || isWeights && len(w.Num) == 0 && w.Den == 0 || v.IsZero()
	return call{name, fmt.Sprint(result), zero, e}
}

// everything calls all functions with a floor.
func everything(p problem, w api.Weights, n int) []call {
	puts, e := weight.Puts(p.r, p.tiles)
	list := []call{callOf("Puts", puts, e)}
	signed, e := weight.Signed(p.r, p.tiles)
	list = append(list, callOf("Signed", signed, e))
	whole, e := weight.Whole(p.r, p.tiles)
	list = append(list, callOf("Whole", whole, e))
	is, e := weight.IsWhole(p.r, p.tiles, w)
	list = append(list, callOf("IsWhole", is, e))
	shares, e := weight.Shares(p.r, p.tiles)
	list = append(list, callOf("Shares", shares, e))
	above, e := weight.Above(p.r, p.tiles)
	list = append(list, callOf("Above", above, e))
	is, e = weight.IsAbove(p.r, p.tiles, w)
	list = append(list, callOf("IsAbove", is, e))
	count, e := weight.Tilings(p.r, p.tiles)
	list = append(list, callOf("Tilings", count, e))
	colours, e := weight.Colours(p.r, p.tiles, n)
	return append(list, callOf("Colours", colours, e))
}

// notFloors are arguments that are no floors.
func notFloors() [][]string {
	return [][]string{
		nil,
		{},
		{""},
		{"", ""},
		{"", "#"},
		{"#", ""},
		{"."},
		{"....", "....", "....", "...."},
		{"##", "#"},
		{"#", "##"},
		{"##", "##", "###"},
		{"#....", "#"},
		rectangle(5, 1),
		rectangle(1, 5),
		rectangle(5, 5),
		rectangle(8, 8),
		append(rectangle(4, 4), ""),
		append(rectangle(4, 4), "...."),
		{"####", "####.", "####"},
		{strings.Repeat("#", 100000)},
		slices.Repeat([]string{"#"}, 100000),
		{"#x"},
		{"x#"},
		{"# "},
		{"#\n"},
		{"#\x00"},
		{"\xff#"},
		{"#\u00e9"},
		{"#", "x"},
		{"##", "#,"},
		{"####", "###\""},
	}
}

// notTiles are tiles that are not valid.
func notTiles() []api.Tile {
	list := []api.Tile{
		nil,
		{},
		tile(1, 0),
		tile(0, 1),
		tile(-1, 0, 0, 0),
		tile(0, 0, 0, 0),
		tile(0, 0, -1, 0),
		tile(0, 0, 1, 0, 1, 0),
		tile(0, 0, 2, 0, 1, 0),
		tile(0, 0, 0, 1, 1, 0),
		tile(0, 0, 1, 1, 0, 1),
		tile(0, 0, 0, 2, 0, 1),
		tile(0, 0, 0, 1, 0, 1),
		tile(0, 0, 0, -1),
		tile(0, 0, 1, -1),
		tile(0, 0, 5, 0),
		tile(0, 0, 4, 0, 5, 0),
		tile(0, 0, -5, 1),
		tile(0, 0, 5, 4),
		tile(0, 0, 0, 5),
		tile(0, 0, 1, 0, 2, 0, 3, 0, 4, 0, 0, 1),
		tile(0, 0, 1, 0, 0, 1, 1, 1, 0, 2, 1, 2),
		make(api.Tile, 100000),
	}
	for _, n := range []int{least, least + 1, -1 << 32, 1 << 32, 1<<62 + 1, greatest - 1, greatest} {
		list = append(list, tile(n, 0), tile(0, n), tile(0, 0, n, 1), tile(0, 0, 1, n), tile(0, 0, n, n), tile(n, n, n, n))
	}
	return list
}

// notTileLists are lists that are not valid, though their tiles may be.
func notTileLists() [][]api.Tile {
	all := [][]api.Tile{
		nil,
		{},
		{tile(0, 0), tile(0, 0)},
		{tile(0, 0, 1, 0), tile(0, 0, 0, 1), tile(0, 0, 1, 0)},
		{tile(0, 0), tile(0, 0, 1, 0), tile(0, 0, 0, 1), tile(0, 0, 1, 1), tile(0, 0, 2, 0), tile(0, 0, 0, 2), tile(0, 0, 2, 2)},
		make([]api.Tile, 100000),
		slices.Repeat(dominoes(), 50000),
	}
	for _, t := range notTiles() {
		all = append(all, []api.Tile{t}, append(dominoes(), t), append([]api.Tile{t}, dominoes()...))
	}
	return all
}

// wantErrors wants ErrArg of all functions, and zero values.
func wantErrors(t *testing.T, p problem) {
	t.Helper()
	for _, w := range []api.Weights{{}, weights(2, 1), weights(2, 1, 0, 0, 0), weights(0, greatest)} {
		for _, c := range everything(p, w, 2) {
			if c.errno != api.ErrArg || !c.zero {
				t.Errorf("%.20q, %.80v: %s is %.60s, %d, want ErrArg", p.r, p.tiles, c.name, c.result, c.errno)
			}
		}
	}
}

func TestErrorOfNoFloor(t *testing.T) {
	for _, r := range notFloors() {
		wantErrors(t, problem{r, dominoes()})
		wantErrors(t, problem{r, nil})
	}
}

func TestErrorOfNoTiles(t *testing.T) {
	for _, tiles := range notTileLists() {
		wantErrors(t, problem{rectangle(2, 2), tiles})
		wantErrors(t, problem{[]string{"#"}, tiles})
	}
	for _, given := range notTiles() {
		if got, e := weight.Turns(given); len(got) != 0 || e != api.ErrArg {
			t.Errorf("Turns(%.60v) = %v, %d, want ErrArg", given, got, e)
		}
	}
}

// TestLimits has floors and tiles up to the limits and beyond.
func TestLimits(t *testing.T) {
	for w := 1; w <= 6; w++ {
		for h := 1; h <= 6; h++ {
			want := api.OK
			if w > api.MaxWide || h > api.MaxWide {
				want = api.ErrArg
			}
			if _, e := weight.Puts(rectangle(w, h), dominoes()); e != want {
				t.Errorf("%d by %d: %d", w, h, e)
			}
		}
	}
	for x := -6; x <= 6; x++ {
		for y := -2; y <= 6; y++ {
			given := tile(0, 0, x, y)
			want := api.ErrArg
			if isTile(given) {
				want = api.OK
			}
			_, e := weight.Puts([]string{"#"}, []api.Tile{given})
			if _, f := weight.Turns(given); e != want || f != want {
				t.Errorf("%v: Puts %d, Turns %d, want %d", given, e, f, want)
			}
		}
	}
	var tiles []api.Tile
	for k := range 8 {
		tiles = append(tiles, tile(0, 0, k-4, 1))
		want := api.OK
		if len(tiles) > api.MaxTiles {
			want = api.ErrArg
		}
		if _, e := weight.Puts([]string{"#"}, tiles); e != want {
			t.Errorf("%d tiles: %d", len(tiles), e)
		}
	}
	for size := 1; size <= 7; size++ {
		given := tile(0, 0, 1, 0, 2, 0, 3, 0, 0, 1, 1, 1, 2, 1)[:size]
		_, e := weight.Puts([]string{"#"}, []api.Tile{given})
		if _, f := weight.Turns(given); (e == api.OK) != (size <= api.MaxCells) || e != f {
			t.Errorf("%d cells: Puts %d, Turns %d", size, e, f)
		}
	}
}

// ints are numbers inside and outside all limits.
func ints() []int {
	return []int{least, least + 1, -1<<40 - 1, -1 << 40, -1 << 32, -5, -1, 0, 1, 2, 4, 5, 6, 7, 1 << 32, 1 << 40, 1<<40 + 1, 1 << 62, greatest - 1, greatest}
}

func TestNoArgumentPanics(t *testing.T) {
	for _, r := range append(notFloors(), []string{"#"}, []string{"##"}, rectangle(2, 2), rectangle(4, 4)) {
		for i, tiles := range append(notTileLists(), tileLists()...) {
			p := problem{r, tiles}
			everything(p, weights(ints()[i%len(ints())], make([]int, i)...), ints()[i%len(ints())])
		}
	}
	for _, p := range []problem{{[]string{"##"}, dominoes()}, {[]string{"#.#"}, dominoes()}} {
		for _, x := range ints() {
			for _, y := range ints() {
				weight.Turns(tile(0, 0, x, y))
				weight.Puts(p.r, []api.Tile{tile(x, y), tile(0, 0, y, x)})
				weight.Colours(p.r, p.tiles, x)
				for _, z := range ints() {
					weight.IsWhole(p.r, p.tiles, weights(x, y, z))
					weight.IsAbove(p.r, p.tiles, weights(x, y, z))
				}
			}
		}
	}
}

// TestResultsDependOnArguments calls everything again, backwards and in several goroutines at once.
func TestResultsDependOnArguments(t *testing.T) {
	problems := largeProblems(12, 150)
	results := func(i int) []call {
		p := problems[i]
		turns, e := weight.Turns(p.tiles[0])
		return append(everything(p, weights(2, slices.Repeat([]int{1}, len(cellsOf(p.r)))...), 2+i%5), callOf("Turns", turns, e))
	}
	first := make([][]call, len(problems))
	for i := range problems {
		first[i] = results(i)
	}
	for i := len(problems) - 1; i >= 0; i-- {
		if again := results(i); !slices.Equal(again, first[i]) {
			t.Errorf("%v: first %v and then %v", problems[i], first[i], again)
		}
	}
	var group sync.WaitGroup
	for i := range problems {
		group.Go(func() {
			if again := results(i); !slices.Equal(again, first[i]) {
				t.Errorf("%v: first %v and in a goroutine %v", problems[i], first[i], again)
			}
		})
	}
	group.Wait()
}

// roomy returns a copy of a list with more elements behind it, and the copy of all of them.
func roomy[T any](list []T, behind T) ([]T, []T) {
	all := append(slices.Clone(list), behind, behind)
	return all[:len(list)], all
}

// TestArgumentsStay gives lists with room behind them, which must stay as it is too.
func TestArgumentsStay(t *testing.T) {
	for _, p := range largeProblems(13, 100) {
		r, allRows := roomy(p.r, "behind")
		tiles, allTiles := roomy(p.tiles, tile(7, 7))
		kept := slices.Clone(allTiles)
		var allCells [][]api.Cell
		for k := range tiles {
			next, all := roomy(tiles[k], api.Cell{X: 7, Y: 7})
			tiles[k] = next
			allCells = append(allCells, all)
		}
		numbers, allNumbers := roomy(slices.Repeat([]int{1}, len(cellsOf(p.r))), 7)
		everything(problem{r, tiles}, weights(2, numbers...), 3)
		for k := range tiles {
			weight.Turns(tiles[k])
			if want := append(slices.Clone(p.tiles[k]), tile(7, 7, 7, 7)...); !slices.Equal(allCells[k], want) {
				t.Errorf("%v has become %v", want, allCells[k])
			}
		}
		if !slices.Equal(allRows, append(slices.Clone(p.r), "behind", "behind")) || !reflect.DeepEqual(allTiles, kept) {
			t.Errorf("%q, %v have become %q, %v", p.r, kept, allRows, allTiles)
		}
		if want := append(slices.Repeat([]int{1}, len(numbers)), 7, 7); !slices.Equal(allNumbers, want) {
			t.Errorf("%v has become %v", want, allNumbers)
		}
	}
}

// spoil overwrites a list and the room behind it.
func spoil[T any](list []T, with T) {
	list = list[:cap(list)]
	for i := range list {
		list[i] = with
	}
}

// TestResultsAreNewMemory spoils one result, and looks at the arguments, and at results from before and after that.
func TestResultsAreNewMemory(t *testing.T) {
	for _, p := range append(largeProblems(14, 60), problem{[]string{"#"}, []api.Tile{tile(0, 0)}}) {
		kept := fmt.Sprint(p)
		want := everything(p, api.Weights{}, 2)
		puts, _ := weight.Puts(p.r, p.tiles)
		signed, _ := weight.Signed(p.r, p.tiles)
		whole, _ := weight.Whole(p.r, p.tiles)
		shares, _ := weight.Shares(p.r, p.tiles)
		above, _ := weight.Above(p.r, p.tiles)
		colours, _ := weight.Colours(p.r, p.tiles, 2)
		spoil(puts, api.Put{Tile: 99})
		for _, list := range [][]int{signed, whole.Num, shares.Num, above.Num, colours} {
			spoil(list, 99)
		}
		if again := everything(p, api.Weights{}, 2); !slices.Equal(again, want) || fmt.Sprint(p) != kept {
			t.Errorf("%s: first %v and then, of %v, %v", kept, want, p, again)
		}
	}
}

// TestTurnsAreNewMemory spoils them one after the other: those behind it, and the argument, stay as they are.
func TestTurnsAreNewMemory(t *testing.T) {
	for _, given := range []api.Tile{tile(0, 0), tile(0, 0, 1, 0), tile(0, 0, 1, 0, 0, 1), tile(0, 0, 0, 1, 0, 2, 1, 2), tile(0, 0, 1, 0, 0, 1, 1, 1)} {
		kept := slices.Clone(given)
		want, e := weight.Turns(given)
		got, f := weight.Turns(given)
		if e != api.OK || f != api.OK {
			t.Fatal(given, e, f)
		}
		for k := range got {
			spoil(got[k], api.Cell{X: 99, Y: 99})
			if !reflect.DeepEqual(got[k+1:], want[k+1:]) {
				t.Errorf("%v: with %v, others were spoiled: %v", given, want[k], got)
			}
		}
		spoil(got, nil)
		if again, _ := weight.Turns(given); !slices.Equal(given, kept) || !reflect.DeepEqual(again, want) {
			t.Errorf("%v has become %v, and its Turns %v", kept, given, again)
		}
	}
}
