package height_test

// The errors that all functions have, P1 (no panic, for all arguments), P2 (the result depends only on the arguments),
// and the rule about memory.

import (
	"fmt"
	"math"
	"slices"
	"strings"
	"sync"
	"testing"

	"encaustic/api"
	"encaustic/domino"
	"encaustic/height"
)

// notRegions are arguments that are no regions.
func notRegions() [][]string {
	return [][]string{
		nil,
		{},
		{""},
		{"##", "#"},
		{"#", "##"},
		{"##", ""},
		{"#x"},
		{"##", "# "},
		{"\u00e9"},
		rectangle(9, 2),
		rectangle(2, 9),
		{strings.Repeat("#", 100000)},
		slices.Repeat([]string{"##"}, 100000),
	}
}

// notPlain are regions that are not plain: without cells, in parts, with holes, or touching themselves at a corner.
func notPlain() [][]string {
	return [][]string{
		{"."},
		{"..", ".."},
		{"#.#"},
		{"##..##"},
		{"##", "..", "##"},
		{"###", "#.#", "###"},
		{"####", "#..#", "#..#", "####"},
		{"#.", ".#"},
		{".#", "#."},
		{"##.", "###", "#.#", "##."},
		{"##.", "#.#", "###"},
		{".###", "##.#", "#.##", "###."},
		{"##..", "##..", "..##", "..##"},
		{"####.", "#..#.", "#.##.", "#.#.#", "#####"},
	}
}

// call is what a function returned: its result, written down, and whether that is the zero value.
type call struct {
	name, result string
	zero         bool
	errno        api.Errno
}

// calls calls all functions with a region and arguments of the same kind.
func calls(r []string, h api.Heights, s, t []api.Domino, c api.Cell) []call {
	var list []call
	tiling := func(name string, got []api.Domino, e api.Errno) {
		list = append(list, call{name, fmt.Sprint(got), len(got) == 0, e})
	}
	cells := func(name string, got []api.Cell, e api.Errno) {
		list = append(list, call{name, fmt.Sprint(got), len(got) == 0, e})
	}
	number := func(name string, got int, e api.Errno) {
		list = append(list, call{name, fmt.Sprint(got), got == 0, e})
	}
	of, e := height.Of(r, s)
	list = append(list, call{"Of", fmt.Sprint(of), of.W == 0 && of.H == 0 && len(of.Values) == 0 && len(of.Known) == 0, e})
	below, e := height.Below(r, s, t)
	list = append(list, call{"Below", fmt.Sprint(below), !below, e})
	got, e := height.Meet(r, s, t)
	tiling("Meet", got, e)
	got, e = height.Join(r, s, t)
	tiling("Join", got, e)
	got, e = height.Flip(r, s, c.X, c.Y)
	tiling("Flip", got, e)
	where, e := height.Flips(r, s)
	cells("Flips", where, e)
	where, e = height.Path(r, s, t)
	cells("Path", where, e)
	n, e := height.Distance(r, s, t)
	number("Distance", n, e)
	got, e = height.Tiling(r, h)
	tiling("Tiling", got, e)
	got, e = height.Least(r)
	tiling("Least", got, e)
	got, e = height.Greatest(r)
	tiling("Greatest", got, e)
	n, e = height.Rank(r)
	number("Rank", n, e)
	return list
}

// wantErrors wants just one error of the first functions of calls, and zero values.
func wantErrors(t *testing.T, r []string, list []call, want api.Errno) {
	t.Helper()
	for _, c := range list {
		if c.errno != want || !c.zero {
			t.Errorf("%.40q: %s is %s, %d, want error %d", r, c.name, c.result, c.errno, want)
		}
	}
}

// someLists are lists of dominoes that are no tilings of two by two.
func someLists() [][]api.Domino {
	return [][]api.Domino{
		nil,
		{},
		{across(0, 0)},
		{across(0, 1), across(0, 0)},
		{across(0, 0), across(0, 0)},
		{across(0, 0), down(1, 0)},
		{down(1, 0), down(0, 0)},
		{across(0, 0), across(0, 1), across(0, 2)},
		{across(0, 0), across(0, 1), across(0, 1)},
		{across(-1, 0), across(0, 1)},
		{down(0, 0), down(1, 1)},
		{across(math.MinInt, math.MaxInt), across(math.MaxInt, math.MinInt)},
		make([]api.Domino, 100000),
	}
}

func TestErrorOfNoRegion(t *testing.T) {
	for _, r := range notRegions() {
		for _, list := range someLists() {
			wantErrors(t, r, calls(r, api.Heights{}, list, list, api.Cell{}), api.ErrArg)
		}
	}
}

// TestErrorOfRegionsThatAreNotPlain: it comes before that of a list that is no tiling, and after it has one.
func TestErrorOfRegionsThatAreNotPlain(t *testing.T) {
	for _, r := range notPlain() {
		lists := someLists()
		if tiling, e := domino.Tile(r); e == api.OK {
			lists = append(lists, tiling)
		}
		for _, list := range lists {
			wantErrors(t, r, calls(r, api.Heights{}, list, list, api.Cell{}), api.ErrState)
		}
	}
}

func TestErrorOfNoTiling(t *testing.T) {
	r, flat := rectangle(2, 2), []api.Domino{across(0, 0), across(0, 1)}
	h, _ := height.Of(r, flat)
	for _, list := range someLists() {
		both := calls(r, h, list, list, api.Cell{X: 5, Y: 5})
		wantErrors(t, r, both[:8], api.ErrArg)
		for _, c := range calls(r, h, flat, list, api.Cell{}) {
			if slices.Contains([]string{"Below", "Meet", "Join", "Path", "Distance"}, c.name) {
				wantErrors(t, r, []call{c}, api.ErrArg)
			}
		}
		for _, c := range calls(r, h, list, flat, api.Cell{})[:8] {
			wantErrors(t, r, []call{c}, api.ErrArg)
		}
	}
	wantErrors(t, []string{"###"}, calls([]string{"###"}, h, nil, nil, api.Cell{})[:8], api.ErrArg)
	wantErrors(t, []string{"###"}, calls([]string{"###"}, h, nil, nil, api.Cell{})[8:], api.ErrPlan)
}

// TestEveryRegion tells plain regions, and those that have tilings, from others.
func TestEveryRegion(t *testing.T) {
	found := map[api.Errno]int{}
	for _, size := range [][2]int{{1, 1}, {1, 4}, {4, 1}, {2, 2}, {3, 3}, {2, 5}, {5, 2}, {3, 4}, {4, 3}, {5, 3}} {
		for _, r := range everyRegion(size[0], size[1]) {
			want := api.OK
			if !isPlain(r) {
				want = api.ErrState
			} else if len(tilings(r)) == 0 {
				want = api.ErrPlan
			}
			found[want]++
			_, e := height.Rank(r)
			_, f := height.Least(r)
			_, g := height.Greatest(r)
			if e != want || f != want || g != want {
				t.Errorf("%q: errors %d, %d, %d, want %d", r, e, f, g, want)
			}
		}
	}
	if len(found) != 3 {
		t.Error(found)
	}
}

// ints are numbers inside and outside all limits.
func ints() []int {
	return []int{math.MinInt, math.MinInt + 1, -1 << 32, -9, -1, 0, 1, 2, 7, 8, 9, 63, 1 << 32, 1 << 61, math.MaxInt - 1, math.MaxInt}
}

func TestNoArgumentPanics(t *testing.T) {
	regions := append(notRegions(), notPlain()...)
	for _, r := range append(regions, []string{"#"}, rectangle(2, 2), rectangle(8, 8), diamond()) {
		tiling, _ := domino.Tile(r)
		for _, x := range ints() {
			for _, y := range ints() {
				height.Flip(r, tiling, x, y)
				height.Of(r, []api.Domino{across(x, y), down(x, y)})
				height.Tiling(r, api.Heights{W: x, H: y})
				height.Tiling(r, api.Heights{W: 8, H: 8, Values: slices.Repeat([]int{x, y}, 41)[:81], Known: make([]bool, 81)})
				height.Tiling(r, api.Heights{W: 2, H: 2, Values: slices.Repeat([]int{0, x, y}, 3), Known: slices.Repeat([]bool{true}, 9)})
			}
		}
	}
}

// everything writes down all results for a region and two of its tilings.
func everything(r []string, s, t []api.Domino) string {
	text := ""
	h, _ := height.Of(r, s)
	for y := range r {
		for _, c := range calls(r, h, s, t, api.Cell{X: y, Y: y}) {
			text += c.name + " " + c.result + fmt.Sprintln(c.errno)
		}
	}
	return text
}

// TestResultsDependOnArguments calls everything again, backwards and in several goroutines at once.
func TestResultsDependOnArguments(t *testing.T) {
	regions := largeRegions()
	first, s := make([]string, len(regions)), make([][][]api.Domino, len(regions))
	for i, r := range regions {
		s[i] = someTilings(t, r, 2)
		first[i] = everything(r, s[i][0], s[i][1])
	}
	for i := len(regions) - 1; i >= 0; i-- {
		if again := everything(regions[i], s[i][0], s[i][1]); again != first[i] {
			t.Errorf("%q: first\n%sand then\n%s", regions[i], first[i], again)
		}
	}
	var group sync.WaitGroup
	for i, r := range regions {
		group.Go(func() {
			if again := everything(slices.Clone(r), slices.Clone(s[i][0]), slices.Clone(s[i][1])); again != first[i] {
				t.Errorf("%q: first\n%sand in a goroutine\n%s", r, first[i], again)
			}
		})
	}
	group.Wait()
}

// TestArgumentsStay gives lists with room behind them, which must stay as it is too.
func TestArgumentsStay(t *testing.T) {
	for _, r := range [][]string{rectangle(2, 2), rectangle(4, 4), diamond(), {".##", "###", "###"}} {
		tilings := someTilings(t, r, 2)
		rows := append(slices.Clone(r), "behind")
		one, two := append(tilings[0], across(9, 9)), append(tilings[1], across(9, 9))
		h, _ := height.Of(r, tilings[0])
		h.Values, h.Known = append(h.Values, 77), append(h.Known, true)
		given := fmt.Sprint(rows, one, two, h)
		n := len(tilings[0])
		heights := api.Heights{W: h.W, H: h.H, Values: h.Values[:len(h.Values)-1], Known: h.Known[:len(h.Known)-1]}
		for _, c := range grid(0, 0, len(r[0]), len(r)) {
			calls(rows[:len(r)], heights, one[:n], two[:n], c)
		}
		if now := fmt.Sprint(rows, one, two, h); now != given {
			t.Errorf("%s has become %s", given, now)
		}
	}
}

// spoil overwrites a list and the room behind it.
func spoil[T any](list []T, with T) {
	list = list[:cap(list)]
	for i := range list {
		list[i] = with
	}
}

// TestResultsAreNewMemory spoils results, and looks at the arguments, and at what comes of them again.
func TestResultsAreNewMemory(t *testing.T) {
	for _, r := range [][]string{rectangle(2, 1), rectangle(4, 4), diamond()} {
		list := someTilings(t, r, 2)
		a, b := list[0], list[1]
		given, want := fmt.Sprint(r, a, b), everything(r, a, b)
		h, _ := height.Of(r, a)
		kept, _ := height.Of(r, a)
		spoil(h.Values, 99)
		spoil(h.Known, false)
		for _, f := range []func() ([]api.Domino, api.Errno){
			func() ([]api.Domino, api.Errno) { return height.Tiling(r, kept) },
			func() ([]api.Domino, api.Errno) { return height.Least(r) },
			func() ([]api.Domino, api.Errno) { return height.Greatest(r) },
			func() ([]api.Domino, api.Errno) { return height.Meet(r, a, a) },
			func() ([]api.Domino, api.Errno) { return height.Join(r, b, b) },
			func() ([]api.Domino, api.Errno) { return height.Flip(r, a, 0, 0) },
		} {
			before, _ := f()
			text := fmt.Sprint(before)
			spoiled, _ := f()
			spoil(spoiled, across(9, 9))
			if fmt.Sprint(before) != text {
				t.Errorf("%q: %s has become %v", r, text, before)
			}
		}
		cells, _ := height.Flips(r, a)
		spoil(cells, api.Cell{X: 9, Y: 9})
		cells, _ = height.Path(r, a, b)
		spoil(cells, api.Cell{X: 9, Y: 9})
		if again := everything(r, a, b); again != want || fmt.Sprint(r, a, b) != given {
			t.Errorf("%s: first\n%sand then, of %v, %v\n%s", given, want, a, b, again)
		}
	}
}

// TestValuesStayWhereTilingReadsThem spoils the heights after the call.
func TestValuesStayWhereTilingReadsThem(t *testing.T) {
	r, flat := rectangle(2, 2), []api.Domino{across(0, 0), across(0, 1)}
	h, _ := height.Of(r, flat)
	tiling, _ := height.Tiling(r, h)
	spoil(h.Values, 99)
	spoil(h.Known, false)
	spoil(flat, across(9, 9))
	if !slices.Equal(tiling, []api.Domino{across(0, 0), across(0, 1)}) {
		t.Error(tiling)
	}
}
