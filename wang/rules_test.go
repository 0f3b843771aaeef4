package wang_test

// The errors that all functions have, P1 (no panic, for all arguments), P2 (the result depends only on the arguments),
// and the rule about memory.

import (
	"fmt"
	"reflect"
	"slices"
	"sync"
	"testing"

	"encaustic/api"
	"encaustic/wang"
)

// call is what a function returned: its result, written down, and whether that is the zero value.
type call struct {
	name, result string
	zero         bool
	errno        api.Errno
}

// callOf takes the results of a function: lists, numbers and bools.
func callOf(name string, e api.Errno, results ...any) call {
	c := call{name, fmt.Sprint(results...), true, e}
	for _, r := range results {
		v := reflect.ValueOf(r)
		empty := v.Kind() == reflect.Slice && v.Len() == 0
		c.zero = c.zero && (empty || v.IsZero())
	}
	return c
}

// sized calls the functions with measures.
func sized(set []api.Wang, w, h int, proof [][]int) []call {
	board, e := wang.Fill(set, w, h)
	list := []call{callOf("Fill", e, board)}
	n, e := wang.Count(set, w, h)
	list = append(list, callOf("Count", e, n))
	n, e = wang.Closed(set, w, h)
	list = append(list, callOf("Closed", e, n))
	found, e := wang.Refute(set, w, h)
	list = append(list, callOf("Refute", e, found))
	ok, e := wang.Refutes(set, w, h, proof)
	return append(list, callOf("Refutes", e, ok))
}

// ofSet calls the others with a set.
func ofSet(set []api.Wang, lists [][]int, north []int) []call {
	good, closed, e := wang.Good(set, lists)
	list := []call{callOf("Good", e, good, closed)}
	rows, e := wang.Rows(set, north)
	list = append(list, callOf("Rows", e, rows))
	w, h, e := wang.Least(set)
	list = append(list, callOf("Least", e, w, h))
	product, e := wang.Product(set, set)
	return append(list, callOf("Product", e, product))
}

// ofMachine calls the functions with a machine.
func ofMachine(m api.Machine, tape []int, steps int) []call {
	set, e := wang.Machine(m)
	list := []call{callOf("Machine", e, set)}
	left, at, state, e := wang.Run(m, tape, steps)
	return append(list, callOf("Run", e, left, at, state))
}

func wantErrors(t *testing.T, about any, list []call) {
	t.Helper()
	for _, c := range list {
		if c.errno != api.ErrArg || !c.zero {
			t.Errorf("%.80v: %s is %.60s, %d, want ErrArg", about, c.name, c.result, c.errno)
		}
	}
}

// ints are numbers inside and outside all limits.
func ints() []int {
	return []int{least, least + 1, -1 << 32, -8, -1, 0, 1, 2, 3, 4, 5, 7, 8, 16, 1 << 32, 1<<32 + 1, 1 << 62, greatest - 1, greatest}
}

// notSets are lists of tiles that are no sets.
func notSets() [][]api.Wang {
	all := [][]api.Wang{
		nil,
		{},
		tiles("0000", "0000"),
		tiles("0123", "1234", "4321", "1234"),
		append(free(), tiles("0002")...),
		append(columns(4, 4), tiles("0000")...),
		append(free()[:15], tiles("1011")...),
		make([]api.Wang, 17),
		make([]api.Wang, 100000),
	}
	for _, n := range []int{least, -1 << 32, -1, 8, 9, 1 << 32, greatest} {
		for _, bad := range []api.Wang{{North: n}, {East: n}, {South: n}, {West: n}} {
			all = append(all, []api.Wang{bad}, append(tiles("0000", "1010"), bad), append([]api.Wang{bad}, free()[:15]...))
		}
	}
	return all
}

func TestErrorOfNoSet(t *testing.T) {
	for _, set := range notSets() {
		for _, lists := range [][][]int{nil, {{0}}, {{0, 0}, {0, 0}}, {{1, 0}}, make([][]int, 70000)} {
			for _, w := range []int{least, 0, 1, 4, 5} {
				wantErrors(t, set, sized(set, w, 2, lists))
			}
			wantErrors(t, set, ofSet(set, lists, []int{0}))
			wantErrors(t, set, ofSet(set, lists, nil))
		}
	}
}

func TestErrorOfNoMeasures(t *testing.T) {
	for _, set := range [][]api.Wang{tiles("0000"), tiles("0010"), free(), notPeriodic()} {
		for _, n := range ints() {
			if n >= 1 && n <= api.MaxBoard {
				for _, c := range sized(set, n, 1, nil) {
					if c.errno == api.ErrArg {
						t.Errorf("%v: %d by 1: %s is %s, %d", set, n, c.name, c.result, c.errno)
					}
				}
				continue
			}
			for m := range 6 {
				wantErrors(t, n, sized(set, n, m, nil))
				wantErrors(t, n, sized(set, m, n, [][]int{{1, 0}}))
			}
			wantErrors(t, n, sized(set, n, n, make([][]int, 70000)))
		}
	}
}

// TestLimitsOfSets: sets of up to 16 tiles, and all colours on all sides.
func TestLimitsOfSets(t *testing.T) {
	var set []api.Wang
	for n := 1; n <= 20; n++ {
		set = append(set, api.Wang{North: n % 8, East: n / 8, South: n % 5, West: n % 7})
		want := api.OK
		if n > api.MaxSet {
			want = api.ErrArg
		}
		if _, e := wang.Count(set, 1, 1); e != want {
			t.Errorf("%d tiles: %d", n, e)
		}
	}
	for c := range 8 {
		for _, set := range [][]api.Wang{{{North: c}}, {{East: c}}, {{South: c}}, {{West: c}}, {{North: c, East: c, South: c, West: c}}} {
			if n, e := wang.Count(set, 1, 1); n != 1 || e != api.OK {
				t.Errorf("%v: Count is %d, %d", set, n, e)
			}
		}
	}
}

func TestNoArgumentPanics(t *testing.T) {
	lists := append(notBoards(), [][]int{{0, 0}, {0, 0}}, [][]int{{1, 0}}, [][]int{{3, 7, 7, 7, 7}}, [][]int{{1, 1}, {1}, nil})
	sets := append(notSets(), handMade()...)
	for i, set := range sets {
		for j, list := range lists {
			n, m := ints()[(i+j)%len(ints())], ints()[(3*i+5*j)%len(ints())]
			ofSet(set[:min(len(set), 20)], list, []int{n, m})
			sized(set, n, m, list)
			wang.Refutes(set, 1+i%4, 1+j%4, list)
			wang.Product(set, sets[(i+j)%len(sets)])
		}
	}
	for _, x := range ints() {
		for _, y := range ints() {
			ofMachine(api.Machine{States: x, Table: make([]api.Entry, 4)}, []int{y}, x)
			ofMachine(machine("1R0", "1LH"), []int{x, y}, y)
			for z := range 4 {
				m := beaver()
				m.Table[z] = api.Entry{Write: x, Right: z < 2, Next: y}
				ofMachine(m, []int{0, 1, 0}, 4)
			}
			wang.Rows(free(), []int{x, y})
			wang.Good(free(), [][]int{{x, y}, {y, x}})
			wang.Refutes(tiles("0010"), 2, 3, [][]int{{x, y, x}, {1, 1, 1}})
		}
	}
	for _, m := range notMachines() {
		ofMachine(m, []int{0, 0, 0, 0}, 4)
	}
}

// TestResultsDependOnArguments calls everything again, backwards and in several goroutines at once.
func TestResultsDependOnArguments(t *testing.T) {
	sets := append(handMade(), randomSets(21, 80)...)
	results := func(i int) []call {
		set := sets[i]
		list := append(sized(set, 1+i%3, 1+i%4, [][]int{{1, 1}}), sized(set, 1+i%4, 4, nil)...)
		list = append(list, ofSet(set, [][]int{{0, 0}}, []int{i % 3, i % 2})...)
		return append(list, ofMachine(beaver(), []int{0, i % 2, 0}, i%5)...)
	}
	first := make([][]call, len(sets))
	for i := range sets {
		first[i] = results(i)
	}
	for i := len(sets) - 1; i >= 0; i-- {
		if again := results(i); !slices.Equal(again, first[i]) {
			t.Errorf("%v: first %v and then %v", sets[i], first[i], again)
		}
	}
	var group sync.WaitGroup
	for i := range sets {
		group.Go(func() {
			if again := results(i); !slices.Equal(again, first[i]) {
				t.Errorf("%v: first %v and in a goroutine %v", sets[i], first[i], again)
			}
		})
	}
	group.Wait()
}

// roomy returns a copy of a list with more elements behind it, and the copy of all of them.
func roomy[T any](list []T, behind T) ([]T, []T) {
	all := append(slices.Clone(list), behind, behind)
	return all[:len(list)], all
}

// roomyLists does so with each list of a list too.
func roomyLists(lists [][]int) ([][]int, [][]int) {
	var inner [][]int
	outer, all := roomy(lists, []int{-7})
	for i := range outer {
		list, more := roomy(outer[i], -7)
		outer[i] = list
		inner = append(inner, more)
	}
	return outer, append(inner, all...)
}

// TestArgumentsStay gives lists with room behind them, which must stay as it is too.
func TestArgumentsStay(t *testing.T) {
	for i, set := range append(handMade(), randomSets(22, 60)...) {
		given, allTiles := roomy(set, api.Wang{North: -7})
		w, h := 1+i%4, 1+i/4%4
		board, allBoard := roomyLists(slowFill(set, w, h))
		claims, _ := wang.Refute(set, w, h)
		proof, allProof := roomyLists(claims)
		north, allNorth := roomy([]int{1, 0}, -7)
		m := beaver()
		table, allTable := roomy(m.Table, api.Entry{Write: -7})
		m.Table = table
		tape, allTape := roomy([]int{0, 1, 0}, -7)
		show := func() string { return fmt.Sprint(allTiles, allBoard, allProof, allNorth, allTable, allTape) }
		want := show()
		sized(given, w, h, proof)
		ofSet(given, board, north)
		ofMachine(m, tape, 4)
		if got := show(); got != want {
			t.Errorf("%s have become %s", want, got)
		}
	}
}

// spoil overwrites a list and the room behind it.
func spoil[T any](list []T, with T) {
	list = list[:cap(list)]
	for i := range list {
		list[i] = with
	}
}

// spoilLists spoils list by list: those behind it must stay as they are in another result.
func spoilLists(t *testing.T, name string, list, same [][]int) {
	t.Helper()
	if !areSame(list, same) {
		t.Errorf("%s: %v and %v", name, list, same)
	}
	for i := range list {
		spoil(list[i], 99)
		if !areSame(list[i+1:], same[i+1:]) {
			t.Errorf("%s: with one of %v, others were spoiled: %v", name, same, list)
		}
	}
	spoil(list, nil)
}

// TestResultsAreNewMemory spoils one result, and looks at the arguments, and at results from before and after that.
func TestResultsAreNewMemory(t *testing.T) {
	for i, set := range append(handMade(), randomSets(23, 60)...) {
		kept := slices.Clone(set)
		w, h := 1+i%3, 1+i%4
		want := append(sized(set, w, h, nil), ofSet(set, nil, []int{0, 0})...)
		board, _ := wang.Fill(set, w, h)
		sameBoard, _ := wang.Fill(set, w, h)
		spoilLists(t, "Fill", board, sameBoard)
		rows, _ := wang.Rows(set, []int{0, 0})
		sameRows, _ := wang.Rows(set, []int{0, 0})
		spoilLists(t, "Rows", rows, sameRows)
		proof, _ := wang.Refute(set, w, h)
		sameProof, _ := wang.Refute(set, w, h)
		spoilLists(t, "Refute", proof, sameProof)
		product, _ := wang.Product(set, set)
		sameProduct := slices.Clone(product)
		spoil(product, api.Wang{North: 99})
		if again, _ := wang.Product(set, set); !slices.Equal(again, sameProduct) {
			t.Errorf("%v: Product was %v and is %v", kept, sameProduct, again)
		}
		again := append(sized(set, w, h, nil), ofSet(set, nil, []int{0, 0})...)
		if !slices.Equal(again, want) || !slices.Equal(set, kept) {
			t.Errorf("%v: first %v and then, of %v, %v", kept, want, set, again)
		}
	}
}

// TestMachinesAreNewMemory: what Run returns is not the tape, even if there are no steps.
func TestMachinesAreNewMemory(t *testing.T) {
	m, tape := beaver(), []int{0, 0, 1}
	for steps := range 5 {
		left, _, _, e := wang.Run(m, tape, steps)
		must(t, e)
		spoil(left, 99)
		set, e := wang.Machine(m)
		must(t, e)
		spoil(set, api.Wang{North: 99})
		if !slices.Equal(tape, []int{0, 0, 1}) || !slices.Equal(m.Table, beaver().Table) {
			t.Errorf("after %d steps %v, %v", steps, tape, m)
		}
		if again, e := wang.Machine(m); len(again) != 13 || again[12] != tiles("4013")[0] || e != api.OK {
			t.Errorf("Machine is %v, %d", again, e)
		}
	}
}
