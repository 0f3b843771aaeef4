package pattern_test

// The error that all functions have, P1 (no panic, for all arguments), P2 (the result depends only on the arguments), and
// the rule about memory.

import (
	"fmt"
	"reflect"
	"slices"
	"strings"
	"sync"
	"testing"

	"encaustic/api"
	"encaustic/pattern"
)

// call is what a function returned: its result, written down, and whether that is the zero value.
type call struct {
	name, result string
	zero         bool
	errno        api.Errno
}

// callOf takes the result of a function: a list, a number, a name, a lattice or an orbifold.
func callOf(name string, result any, e api.Errno) call {
	v := reflect.ValueOf(result)
	zero := v.Kind() == reflect.Slice && v.Len() == 0 || v.IsZero()
	if o, is := result.(api.Orbifold); is {
		zero = len(o.Cones) == 0 && len(o.Corners) == 0 && o.Mirrors == 0 && o.Crosses == 0
	}
	return call{name, fmt.Sprint(result), zero, e}
}

// everything calls all functions with a pattern.
func everything(p []string, m api.Move, n int) []call {
	grid, e := pattern.Lattice(p)
	list := []call{callOf("Lattice", grid, e)}
	moves, e := pattern.Symmetries(p)
	list = append(list, callOf("Symmetries", moves, e))
	name, e := pattern.Group(p)
	list = append(list, callOf("Group", name, e))
	orbifold, e := pattern.Orbifold(p)
	list = append(list, callOf("Orbifold", orbifold, e))
	orbits, e := pattern.Orbits(p)
	list = append(list, callOf("Orbits", orbits, e))
	count, e := pattern.Colourings(p, n)
	list = append(list, callOf("Colourings", count, e))
	moved, e := pattern.Apply(p, m)
	list = append(list, callOf("Apply", moved, e))
	smallest, e := pattern.Smallest(p)
	return append(list, callOf("Smallest", smallest, e))
}

// notPatterns are arguments that are no patterns.
func notPatterns() [][]string {
	list := [][]string{
		nil,
		{},
		{""},
		{"", ""},
		{"", "", "", "", "", ""},
		{"a", ""},
		{"", "a"},
		{"ab", "a"},
		{"a", "ab"},
		{"ab", "ba", "aba"},
		{"ab", "ba", "a"},
		{"abcdabc"},
		{"aaaaaaa", "aaaaaaa"},
		{"aaaaaa", "aaaaaa", "aaaaaaa"},
		{"a", "a", "a", "a", "a", "a", "a"},
		{"ab", "ab", "ab", "ab", "ab", "ab", ""},
		{strings.Repeat("a", 100000)},
		slices.Repeat([]string{"a"}, 100000),
		slices.Repeat([]string{strings.Repeat("a", 7)}, 7),
		{"\u00e9"},
		{"ab\u00e9"},
		{"abcdab", "abcdab", "abcdab", "abcdab", "abcdab", "abcdae"},
	}
	for c := range 256 {
		if c < 'a' || c > 'd' {
			b := string([]byte{byte(c)})
			list = append(list, []string{b}, []string{"a" + b}, []string{b + "d"}, []string{"bc", "b" + b})
		}
	}
	return list
}

func TestErrorOfNoPattern(t *testing.T) {
	for _, p := range notPatterns() {
		for n, m := range []api.Move{{}, move(0, 0, 0), move(1, 5, 6), move(0, greatest, least), move(7, 1001, 0)} {
			for _, c := range everything(p, m, n) {
				if c.errno != api.ErrArg || !c.zero {
					t.Errorf("%.50q: %s is %.60s, %d, want ErrArg", p, c.name, c.result, c.errno)
				}
			}
		}
	}
}

// TestAllMeasuresArePatterns: of every colour, and up to six by six.
func TestAllMeasuresArePatterns(t *testing.T) {
	for w := 1; w <= 6; w++ {
		for h := 1; h <= 6; h++ {
			for _, p := range [][]string{aperiodic(w, h), beginning([]string{"abcd"}, w, h), beginning([]string{"d"}, w, h)} {
				for _, c := range everything(p, move(3, 2, 1), 4) {
					if c.errno != api.OK && (c.errno != api.ErrFull || c.name != "Colourings") {
						t.Errorf("%q: %s is %s, %d", p, c.name, c.result, c.errno)
					}
				}
			}
		}
	}
}

func TestNoArgumentPanics(t *testing.T) {
	ints := []int{least, least + 1, -1 << 32, -1001, -1000, -1, 0, 1, 4, 1000, 1001, 1 << 32, 1 << 62, greatest - 1, greatest}
	patterns := append(notPatterns(), []string{"a"}, []string{"ab", "ba"}, []string{"abc", "ddd"}, aperiodic(4, 3))
	for i, p := range patterns {
		for j, n := range ints {
			everything(p, api.Move{A: n, B: ints[(i+j)%len(ints)], C: 1, D: n, E: n, F: n}, n)
			everything(p, move((i+j)%8, n, ints[(i+j)%len(ints)]), n)
		}
	}
	for _, x := range ints {
		for _, y := range ints {
			pattern.Then(api.Move{A: x, B: y, C: x, D: y, E: x, F: y}, api.Move{A: y, B: y, C: x, D: x, E: y, F: x})
		}
	}
}

// TestResultsDependOnArguments calls everything again, backwards and in several goroutines at once.
func TestResultsDependOnArguments(t *testing.T) {
	patterns := fewPatterns()
	first := make([][]call, len(patterns))
	results := func(i int) []call { return everything(patterns[i], move(i%8, i, i%77), i%5) }
	for i := range patterns {
		first[i] = results(i)
	}
	for i := len(patterns) - 1; i >= 0; i-- {
		if again := results(i); !slices.Equal(again, first[i]) {
			t.Errorf("%q: first %v and then %v", patterns[i], first[i], again)
		}
	}
	var group sync.WaitGroup
	for i := range patterns {
		group.Go(func() {
			if again := results(i); !slices.Equal(again, first[i]) {
				t.Errorf("%q: first %v and in a goroutine %v", patterns[i], first[i], again)
			}
		})
	}
	group.Wait()
}

// TestArgumentsStay gives lists with room behind them, which must stay as it is too.
func TestArgumentsStay(t *testing.T) {
	for i, p := range fewPatterns() {
		roomy := append(slices.Clone(p), "room", "behind")
		everything(roomy[:len(p)], move(i%8, 1, 2), 2)
		if want := append(slices.Clone(p), "room", "behind"); !slices.Equal(roomy, want) {
			t.Errorf("%q has become %q", want, roomy)
		}
	}
}

// spoil overwrites a list and the room behind it.
func spoil[T any](list []T, with T) {
	list = list[:cap(list)]
	for i := range list {
		list[i] = with
	}
}

// TestResultsAreNewMemory spoils one result, and looks at the argument, and at results from before and after that.
func TestResultsAreNewMemory(t *testing.T) {
	for i, p := range fewPatterns() {
		given, m := slices.Clone(p), move(i%2*4, 0, 0)
		want := everything(p, m, 2)
		moves, _ := pattern.Symmetries(p)
		spoil(moves, api.Move{E: 99})
		orbifold, _ := pattern.Orbifold(p)
		corners := slices.Clone(orbifold.Corners)
		spoil(orbifold.Cones, 99)
		if !slices.Equal(orbifold.Corners, corners) {
			t.Errorf("%q: with the cones, the corners were spoiled: %v", p, orbifold)
		}
		spoil(orbifold.Corners, 99)
		spoilStrings(t, p, m)
		spoilOrbits(t, p)
		if again := everything(p, m, 2); !slices.Equal(p, given) || !slices.Equal(again, want) {
			t.Errorf("%q: first %v and then, of %q, %v", given, want, p, again)
		}
	}
}

func spoilStrings(t *testing.T, p []string, m api.Move) {
	t.Helper()
	moved, e := pattern.Apply(p, m)
	must(t, e)
	smallest, e := pattern.Smallest(p)
	must(t, e)
	kept := slices.Clone(smallest)
	spoil(moved, "spoiled")
	if !slices.Equal(smallest, kept) {
		t.Errorf("%q: with what Apply returned, %q was spoiled", p, smallest)
	}
	spoil(smallest, "spoiled")
}

// spoilOrbits spoils row by row: no other row, and none from before, may change.
func spoilOrbits(t *testing.T, p []string) {
	t.Helper()
	before, e := pattern.Orbits(p)
	must(t, e)
	want := slowOrbits(know(p))
	spoiled, e := pattern.Orbits(p)
	must(t, e)
	for i := range spoiled {
		spoil(spoiled[i], 99)
		if !reflect.DeepEqual(spoiled[i+1:], want[i+1:]) {
			t.Errorf("%q: with the row %d, other rows were spoiled: %v", p, i, spoiled)
		}
	}
	spoil(spoiled, nil)
	if !reflect.DeepEqual(before, want) {
		t.Errorf("%q: %v has become %v", p, want, before)
	}
}
