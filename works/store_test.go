package works_test

// P10.1 (works), P10.4 (batches), P10.7 (laying), P10.10 (nothing is lost), P10.11 (laying and lifting), P10.15 (fewest
// batches).

import (
	"fmt"
	"math"
	"math/rand"
	"slices"
	"strconv"
	"strings"
	"testing"

	"encaustic/api"
	"encaustic/works"
)

func newRandom(seed int) *rand.Rand { return rand.New(rand.NewSource(int64(seed))) }

func TestNewWorks(t *testing.T) {
	w := works.New()
	if len(w.Book()) != 0 || w.Audit() != (api.Audit{Good: true}) {
		t.Errorf("%q, %v", w.Book(), w.Audit())
	}
	play(t, w, `
		floors  ->
		audit   -> good 0 0 0 0 0 0
		stock 1 -> 0 0 0 0
		stock 9 -> 0 0 0 0
		lift a  -> ! 6
	`)
	wantSame(t, w, newLedger())
	w.Exec("batch a 1 1")
	if works.New().Audit().Batches != 0 {
		t.Error("new works have batches")
	}
}

func TestBatches(t *testing.T) {
	w := works.New()
	play(t, w, `
		batch a 1 1     -> batch 1
		batch d 9 1000  -> batch 2
		batch b 9 7     -> batch 3
		batch b 9 5     -> batch 4
		batch a 0 1     -> ! 2
		batch a 10 1    -> ! 2
		batch a -1 1    -> ! 2
		batch a 1 0     -> ! 2
		batch a 1 1001  -> ! 2
		batch a 1 -1    -> ! 2
		batch a 1125899906842624 1 -> ! 2
		batch a 1 -1125899906842624 -> ! 2
		batch e 1 1     -> ? word 1
		batch c 2 3     -> batch 5
		stock 1         -> 1 0 0 0
		stock 2         -> 0 0 3 0
		stock 3         -> 0 0 0 0
		stock 9         -> 0 12 0 1000
		stock 0         -> ! 2
		stock 10        -> ! 2
		stock -9        -> ! 2
	`)
	want := []api.Batch{{No: 1, Shade: 'a', Calibre: 1, Count: 1, Left: 1}, {No: 2, Shade: 'd', Calibre: 9, Count: 1000, Left: 1000}, {No: 3, Shade: 'b', Calibre: 9, Count: 7, Left: 7}, {No: 4, Shade: 'b', Calibre: 9, Count: 5, Left: 5}, {No: 5, Shade: 'c', Calibre: 2, Count: 3, Left: 3}}
	for i, b := range want {
		if got, e := w.Batch(i + 1); got != b || e != api.OK {
			t.Errorf("batch %d is %v, %d", i+1, got, e)
		}
	}
	for _, no := range []int{math.MinInt, -1, 0, 6, 60, 1 << 32, 1<<32 + 1, math.MaxInt} {
		if got, e := w.Batch(no); got != (api.Batch{}) || e != api.ErrNone {
			t.Errorf("batch %d is %v, %d", no, got, e)
		}
	}
}

// TestLimitOfBatches: with 60, ErrArg still comes first, and an empty batch makes no room.
func TestLimitOfBatches(t *testing.T) {
	w := start(t, append(repeated("batch a 1 2", 60), "floor x ##/##", "lay x 1")...)
	play(t, w, `
		batch a 1 1    -> ! 8
		batch d 9 1000 -> ! 8
		batch a 10 1   -> ! 2
		batch a 1 1001 -> ! 2
		audit          -> good 62 60 120 118 2 1
	`)
	if _, e := w.Batch(60); e != api.OK {
		t.Error(e)
	}
	if _, e := w.Batch(61); e != api.ErrNone {
		t.Error(e)
	}
}

func TestLay(t *testing.T) {
	w := start(t, "batch a 1 3", "batch a 2 9", "batch b 1 1", "floor hall ####/####", "floor none ./.", "batch b 1 1")
	play(t, w, `
		lay other 1  -> ! 6
		lay other 10 -> ! 6
		lay hall 0   -> ! 2
		lay hall 10  -> ! 2
		lay hall -1  -> ! 2
		lay hall 1   -> ! 10
		lay hall 3   -> ! 10
		stock 1      -> 3 2 0 0
		lay none 10  -> ! 2
		lay none 9   -> -
		lay none 9   -> ! 9
		lay none 10  -> ! 9
		draw none 1  -> ! 9
		flip none 0 0 -> ! 9
		paint none a -> ! 9
		lift none    -> 0
		lift none    -> ! 9
		lift other   -> ! 6
		lift hall    -> ! 9
		lay hall 2   -> a2
		stock 2      -> 5 0 0 0
		lay hall 2   -> ! 9
		draw hall 1  -> ! 9
		draw hall -1 -> ! 9
		flip hall 0 0 -> ! 9
		flip hall 9 9 -> ! 9
		paint hall a -> ! 9
		floor hall # -> ! 7
		floor two #### -> 1
		lay two 1    -> a1
		stock 1      -> 1 2 0 0
		audit        -> good 11 4 14 8 6 3
		lift hall    -> 4
		stock 2      -> 9 0 0 0
		lift two     -> 2
		audit        -> good 13 4 14 14 0 3
		flip hall 0 0 -> ok
		paint hall ba -> pmm
		need hall    -> 1 3 0 0
		lay hall 1   -> ! 10
		batch b 1 1  -> batch 5
		lay hall 1   -> a1 b3,4,5
		stock 1      -> 2 0 0 0
		lift hall    -> 4
		stock 1      -> 3 3 0 0
	`)
}

// TestRefusedLayTakesNothing: of an earlier shade there are enough tiles, of a later one there are not.
func TestRefusedLayTakesNothing(t *testing.T) {
	w := start(t, "batch a 1 5", "batch c 1 1", "floor hall ########/########", "paint hall abc", "draw hall 3")
	before := show(w)
	for range 3 {
		wantReply(t, w, "lay hall 1", "! 10")
	}
	if after := show(w); after != before {
		t.Errorf("first\n%sand then\n%s", before, after)
	}
	wantReply(t, w, "lift hall", "! 9")
}

// TestShadesInOrder: each shade of which there are dominoes, whatever the order of batches.
func TestShadesInOrder(t *testing.T) {
	w := start(t, "batch d 1 9", "batch c 1 9", "batch b 1 9", "batch a 1 9", "floor f ########", "paint f dbcb")
	play(t, w, `
		need f         -> 0 0 2 2
		lay f 1        -> c2 d1
		lift f         -> 4
		paint f dcbac  -> pm
		need f         -> 0 1 2 1
		lay f 1        -> b3 c2 d1
		lift f         -> 4
		paint f bb     -> p4m
		lay f 1        -> b3
	`)
}

// strip is a region of so many dominoes, at most eight, one below the other.
func strip(dominoes int) string {
	return strings.TrimSuffix(strings.Repeat("##/", dominoes), "/")
}

func TestFewestBatches(t *testing.T) {
	for _, c := range []struct {
		counts []int
		need   int
		want   string
		left   []int
	}{
		{[]int{8}, 8, "a1", []int{0}},
		{[]int{9}, 8, "a1", []int{1}},
		{[]int{7}, 8, "! 10", []int{7}},
		{[]int{3, 2, 2}, 8, "! 10", []int{3, 2, 2}},
		{nil, 1, "! 10", nil},
		{[]int{1}, 1, "a1", []int{0}},
		{[]int{9, 1}, 1, "a1", []int{8, 1}},
		{[]int{3, 5, 4, 2}, 8, "a1,2", []int{0, 0, 4, 2}},
		{[]int{3, 3, 3, 9}, 8, "a4", []int{3, 3, 3, 1}},
		{[]int{9, 8, 10}, 8, "a1", []int{1, 8, 10}},
		{[]int{2, 8, 9}, 8, "a2", []int{2, 0, 9}},
		{[]int{4, 5, 4, 3}, 8, "a1,2", []int{0, 1, 4, 3}},
		{[]int{3, 4, 4, 5}, 8, "a1,4", []int{0, 4, 4, 0}},
		{[]int{1, 4, 5, 4}, 8, "a2,3", []int{1, 0, 1, 4}},
		{[]int{1, 1, 5, 4, 7}, 8, "a1,5", []int{0, 1, 5, 4, 0}},
		{[]int{6, 1, 1, 7}, 8, "a1,4", []int{0, 1, 1, 5}},
		{[]int{7, 1, 1, 1}, 8, "a1,2", []int{0, 0, 1, 1}},
		{[]int{7, 7, 7}, 8, "a1,2", []int{0, 6, 7}},
		{[]int{1, 1, 1, 1, 1, 1, 1, 1, 1}, 8, "a1,2,3,4,5,6,7,8", []int{0, 0, 0, 0, 0, 0, 0, 0, 1}},
		{[]int{2, 1, 1, 1, 1, 1, 1, 2}, 8, "a1,2,3,4,5,8", []int{0, 0, 0, 0, 0, 1, 1, 0}},
		{[]int{1, 2, 3, 2, 1, 3}, 8, "a2,3,6", []int{1, 0, 0, 2, 1, 0}},
		{[]int{1, 2, 3, 4, 1, 3}, 8, "a1,3,4", []int{0, 2, 0, 0, 1, 3}},
		{[]int{1, 2, 3, 4, 1, 4}, 8, "a4,6", []int{1, 2, 3, 0, 1, 0}},
		{[]int{3, 4, 4}, 7, "a1,2", []int{0, 0, 4}},
		{[]int{1, 3, 3, 4}, 7, "a2,4", []int{1, 0, 3, 0}},
	} {
		w := works.New()
		for _, n := range c.counts {
			w.Exec(fmt.Sprint("batch a 4 ", n))
		}
		w.Exec("floor f " + strip(c.need))
		wantReply(t, w, "lay f 4", c.want)
		wantLeft(t, w, c.left...)
	}
}

// wantLeft wants the batches from the first one on to have so many tiles left.
func wantLeft(t *testing.T, w *works.Works, left ...int) {
	t.Helper()
	for i, n := range left {
		if b, e := w.Batch(i + 1); b.Left != n || e != api.OK {
			t.Errorf("%q: of batch %d %d are left, %d, want %d", w.Book(), i+1, b.Left, e, n)
		}
	}
}

// TestBatchesOfOtherKindsAreNoUse: neither another shade nor another calibre.
func TestBatchesOfOtherKindsAreNoUse(t *testing.T) {
	w := start(t, "batch b 4 9", "batch a 5 9", "batch a 4 1", "batch a 3 9", "batch a 4 3", "floor f "+strip(4))
	play(t, w, "lay f 4 -> a3,5")
	wantLeft(t, w, 9, 9, 0, 9, 0)
	play(t, w, "lift f -> 4")
	wantLeft(t, w, 9, 9, 1, 9, 3)
}

// TestEmptyBatchesAreNotTaken: they have numbers that are less, and would not make the list longer.
func TestEmptyBatchesAreNotTaken(t *testing.T) {
	w := start(t, "batch a 1 2", "batch a 1 3", "batch a 1 1", "batch a 1 4", "floor e "+strip(2), "floor f "+strip(4), "floor g "+strip(3))
	play(t, w, `
		lay e 1 -> a1
		lay f 1 -> a4
		lay g 1 -> a2
		stock 1 -> 1 0 0 0
		lift f  -> 4
		lift e  -> 2
		lay f 1 -> a4
		lay e 1 -> a1
		lift g  -> 3
		stock 1 -> 4 0 0 0
	`)
	wantLeft(t, w, 0, 3, 1, 0)
}

// TestManyBatches has as many as there can be, and as many dominoes.
func TestManyBatches(t *testing.T) {
	full := strings.TrimSuffix(strings.Repeat("########/", 8), "/")
	w := start(t, append(repeated("batch a 1 1", 60), "floor f "+full)...)
	want := "a1"
	for no := 2; no <= 32; no++ {
		want += fmt.Sprint(",", no)
	}
	wantReply(t, w, "lay f 1", want)
	var lines []string
	for i := range 60 {
		lines = append(lines, fmt.Sprint("batch a 1 ", 1+i%5))
	}
	w = start(t, append(lines, "floor f "+full)...)
	// seven batches of five and fewer do; with twelve of five, and the first two have one and two tiles
	wantReply(t, w, "lay f 1", "a2,5,10,15,20,25,30")
	wantLeft(t, w, 1, 0, 3, 4, 0, 1, 2, 3, 4, 0)
}

// portions are the shades and the batches in the reply of lay.
func portions(reply string) map[byte][]int {
	list := map[byte][]int{}
	for _, word := range strings.Fields(reply) {
		for _, no := range strings.Split(word[1:], ",") {
			n, _ := strconv.Atoi(no)
			list[word[0]] = append(list[word[0]], n)
		}
	}
	return list
}

// TestFewestOfAll: all ascending lists of as many batches that come before, and all shorter ones, have too few tiles left.
func TestFewestOfAll(t *testing.T) {
	for seed := range 300 {
		random := newRandom(seed)
		w := works.New()
		for range 1 + random.Intn(12) {
			w.Exec(fmt.Sprint("batch a 1 ", 1+random.Intn(6)))
		}
		for _, name := range []string{"f", "g", "h"} {
			need := 1 + random.Intn(8)
			w.Exec(fmt.Sprint("floor ", name, " ", strip(need)))
			left := map[int]int{}
			var numbers []int
			for no := 1; no <= w.Audit().Batches; no++ {
				b, _ := w.Batch(no)
				left[no] = b.Left
				numbers = append(numbers, no)
			}
			taken := portions(w.Exec("lay " + name + " 1"))['a']
			enough := func(list []int) bool {
				sum := 0
				for _, no := range list {
					sum += left[no]
				}
				return sum >= need && !slices.Equal(list, taken)
			}
			for size := range len(taken) {
				lists(numbers, size, func(list []int) bool {
					if enough(list) {
						t.Fatalf("%q: %v would do for %d", w.Book(), list, need)
					}
					return false
				})
			}
			lists(numbers, len(taken), func(list []int) bool {
				if enough(list) && slices.Compare(list, taken) < 0 {
					t.Fatalf("%q: %v would do for %d", w.Book(), list, need)
				}
				return false
			})
		}
	}
}

// TestLiftUndoesLay: but for the book; and what was taken is what was needed.
func TestLiftUndoesLay(t *testing.T) {
	laid := 0
	for seed := range 300 {
		random := newRandom(seed)
		w, _ := walk(t, random, 80)
		for _, name := range strings.Fields(w.Exec("floors")) {
			calibre := fmt.Sprint(1 + random.Intn(2))
			before, stock := inside(w), w.Exec("stock "+calibre)
			reply := w.Exec("lay " + name + " " + calibre)
			if reply[0] == '!' {
				continue
			}
			laid++
			if got := less(stock, w.Exec("stock "+calibre)); got != w.Exec("need "+name) {
				t.Errorf("%q: %s were taken, %s needed", w.Book(), got, w.Exec("need "+name))
			}
			if a := w.Audit(); !a.Good || a.Left+a.Laid != a.Tiles {
				t.Errorf("%q: %v", w.Book(), a)
			}
			for shade, list := range portions(strings.Trim(reply, "-")) {
				for _, no := range list {
					if b, _ := w.Batch(no); b.Shade != shade || fmt.Sprint(b.Calibre) != calibre {
						t.Errorf("%q: %s has batch %v", w.Book(), reply, b)
					}
				}
			}
			w.Exec("lift " + name)
			if after := inside(w); after != before {
				t.Errorf("%q: first\n%sand then\n%s", w.Book(), before, after)
			}
		}
	}
	if laid < 200 {
		t.Errorf("%d floors were laid: that tests little", laid)
	}
}

// inside is all that works show but for their book.
func inside(w *works.Works) string {
	a := w.Audit()
	a.Commands = 0
	exec := func(line string) string {
		if line == "audit" {
			return ""
		}
		return w.Exec(line)
	}
	return write(nil, a, exec, w.Batch, w.Floor)
}

// less subtracts lists of numbers with blanks between.
func less(a, b string) string {
	var list []string
	for i, word := range strings.Fields(a) {
		m, _ := strconv.Atoi(word)
		n, _ := strconv.Atoi(strings.Fields(b)[i])
		list = append(list, strconv.Itoa(m-n))
	}
	return strings.Join(list, " ")
}

// TestAuditIsGood whatever was done, and counts what the batches have.
func TestAuditIsGood(t *testing.T) {
	laid := 0
	for seed := range 60 {
		random := newRandom(seed)
		w, l := newBoth()
		for range 120 {
			step(t, w, l, someLine(random))
			a := w.Audit()
			tiles, left := 0, 0
			for no := 1; no <= a.Batches; no++ {
				b, _ := w.Batch(no)
				tiles += b.Count
				left += b.Left
				if b.Left < 0 || b.Left > b.Count {
					t.Fatalf("%q: %v", w.Book(), b)
				}
			}
			if a != l.audit() || a.Tiles != tiles || a.Left != left || !a.Good {
				t.Fatalf("%q: %v, want %v, %d of %d are left", w.Book(), a, l.audit(), left, tiles)
			}
			laid += min(a.Laid, 1)
			wantReply(t, w, "audit", fmt.Sprint("good ", a.Commands, " ", a.Batches, " ", a.Tiles, " ", a.Left, " ", a.Laid, " ", a.Floors))
		}
	}
	if laid < 1000 {
		t.Errorf("%d times something was laid: that tests little", laid)
	}
}
