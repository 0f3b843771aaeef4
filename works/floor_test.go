package works_test

// P10.5 (floors), P10.6 (shades), P10.8 (why), P10.12 (flips keep), and the commands that only ask other layers.

import (
	"fmt"
	"math"
	"slices"
	"strings"
	"testing"

	"encaustic/api"
	"encaustic/domino"
	"encaustic/height"
	"encaustic/sample"
	"encaustic/works"
)

func TestFloors(t *testing.T) {
	w := works.New()
	play(t, w, `
		floors                 ->
		floor hall ####/####   -> 5
		floor x ###/###/##.    -> 4
		floor hall ##          -> ! 7
		floor hall #           -> ! 7
		floor y #              -> ! 10
		floor y #./.#          -> ! 10
		floor y ./.            -> 1
		tiling y               ->
		need y                 -> 0 0 0 0
		match y                -> 0
		floor abcdefgh ##.##/##.## -> 4
		floor a ###/#.#/###    -> 2
		floor ab .##           -> 1
		floors                 -> a ab abcdefgh hall x y
		tiling ab              -> 1,0r
		tiling a               -> 0,0r 2,0d 0,1d 1,2r
		tiling b               -> ! 6
		need b                 -> ! 6
		match b                -> ! 6
		tiling abcdefgh        -> 0,0r 3,0r 0,1r 3,1r
		audit                  -> good 6 0 0 0 0 6
	`)
	for name, want := range map[string][]string{"hall": {"####", "####"}, "x": {"###", "###", "##."}, "y": {".", "."}, "ab": {".##"}} {
		if r, e := w.Floor(name); !slices.Equal(r, want) || e != api.OK {
			t.Errorf("floor %s is %q, %d", name, r, e)
		}
	}
	for _, name := range []string{"", "b", "Hall", "hall ", "ha", "halls", "####", "abcdefghi", "zz", "\xff"} {
		if r, e := w.Floor(name); len(r) != 0 || e != api.ErrNone {
			t.Errorf("floor %q is %q, %d", name, r, e)
		}
	}
}

// TestOrderOfNames: the names are ascending in whatever order the floors were made.
func TestOrderOfNames(t *testing.T) {
	names := []string{"b", "a", "aa", "zzz", "ba", "ab", "z", "abcdefgh"}
	sorted := slices.Sorted(slices.Values(names))
	random := newRandom(5)
	for range 50 {
		random.Shuffle(len(names), func(i, j int) { names[i], names[j] = names[j], names[i] })
		w := works.New()
		for i, name := range names {
			w.Exec("floor " + name + " " + strip(1+i))
		}
		wantReply(t, w, "floors", strings.Join(sorted, " "))
		for i, name := range names {
			if r, e := w.Floor(name); strings.Join(r, "/") != strip(1+i) || e != api.OK {
				t.Errorf("%q: floor %s is %q, %d", w.Book(), name, r, e)
			}
		}
	}
}

// TestLimitOfFloors: with 8, ErrExists and the error of Tile still come first.
func TestLimitOfFloors(t *testing.T) {
	w := works.New()
	for _, name := range strings.Split("abcdefgh", "") {
		wantReply(t, w, "floor "+name+" ##", "1")
	}
	play(t, w, `
		floor i ##   -> ! 8
		floor i .    -> ! 8
		floor i #    -> ! 10
		floor a ##   -> ! 7
		floor h #    -> ! 7
		floors       -> a b c d e f g h
	`)
}

func TestDraw(t *testing.T) {
	w := start(t, "floor hall ####/####/####/####", "floor ring ###/#.#/###", "floor none .")
	for _, seed := range []int{0, 1, 2, 7, 1000, 1<<50 - 1, 1 << 50} {
		for name, rows := range map[string]string{"hall": "####/####/####/####", "ring": "###/#.#/###"} {
			plan, _ := sample.Draw(strings.Split(rows, "/"), uint64(seed))
			index, _ := sample.Index(strings.Split(rows, "/"), plan)
			wantReply(t, w, fmt.Sprint("draw ", name, " ", seed), fmt.Sprint(index))
			wantReply(t, w, "tiling "+name, tilingText(plan))
		}
	}
	play(t, w, `
		draw none 5   -> 0
		draw none -1  -> ! 2
		draw hall -1  -> ! 2
		draw hall -1125899906842624 -> ! 2
		draw other 1  -> ! 6
		draw other -1 -> ! 6
	`)
}

func tilingText(plan []api.Domino) string {
	var words []string
	for _, d := range plan {
		words = append(words, fmt.Sprint(d.X)+","+fmt.Sprint(d.Y)+map[bool]string{false: "r", true: "d"}[d.Down])
	}
	return strings.Join(words, " ")
}

// TestFlip flips at all places, and at some that are far away.
func TestFlip(t *testing.T) {
	for _, rows := range []string{"####/####", "###/###/##.", "######/######/######/######", ".##./####/####/.##."} {
		r := strings.Split(rows, "/")
		w := start(t, "floor f "+rows)
		plan, _ := domino.Tile(r)
		for round := range 500 {
			x, y := round*7%10-1, round*5%7-1
			next, e := height.Flip(r, plan, x, y)
			line := fmt.Sprint("flip f ", x, " ", y)
			if e != api.OK {
				wantReply(t, w, line, fmt.Sprint("! ", int(e)))
				continue
			}
			wantReply(t, w, line, "ok")
			plan = next
			wantReply(t, w, "tiling f", tilingText(plan))
		}
	}
	w := start(t, "floor hall ##/##", "floor ring ###/#.#/###", "floor none .", "floor parts ##.##/##.##")
	play(t, w, `
		flip hall 0 0   -> ok
		tiling hall     -> 0,0d 1,0d
		flip hall 1 0   -> ! 6
		flip hall 0 1   -> ! 6
		flip hall -1 -1 -> ! 6
		flip hall 1125899906842624 -1125899906842624 -> ! 6
		flip hall 0 0   -> ok
		tiling hall     -> 0,0r 0,1r
		flip ring 0 0   -> ! 9
		flip none 0 0   -> ! 9
		flip parts 0 0  -> ! 9
		flip other 0 0  -> ! 6
	`)
}

// TestFlipTakesXAndY in this order.
func TestFlipTakesXAndY(t *testing.T) {
	w := start(t, "floor f ####/####")
	play(t, w, `
		flip f 2 0 -> ok
		tiling f   -> 0,0r 2,0d 3,0d 0,1r
		flip f 0 2 -> ! 6
	`)
}

func TestPaint(t *testing.T) {
	w := start(t, "floor hall ####/####", "floor none .")
	play(t, w, `
		need hall        -> 4 0 0 0
		paint hall ab/ba -> p4m
		need hall        -> 2 2 0 0
		paint hall abc/cab/bca -> cm
		need hall        -> 1 1 2 0
		paint hall abcd  -> pm
		need hall        -> 2 0 2 0
		flip hall 0 0    -> ok
		need hall        -> 1 1 2 0
		flip hall 0 0    -> ok
		flip hall 2 0    -> ok
		tiling hall      -> 0,0r 2,0d 3,0d 0,1r
		need hall        -> 2 0 1 1
		draw hall 0      -> 3
		tiling hall      -> 0,0d 1,0d 2,0r 2,1r
		need hall        -> 1 1 2 0
		paint hall d     -> p4m
		need hall        -> 0 0 0 4
		paint none abcd  -> pm
		need none        -> 0 0 0 0
		paint other a    -> ! 6
	`)
}

// TestPatternsGoOn: of cells beyond its measures a pattern has the colours from its beginning on.
func TestPatternsGoOn(t *testing.T) {
	w := start(t, "floor f ########/########/########/########/########/########/########/########")
	play(t, w, `
		paint f abcdab      -> pm
		need f              -> 24 0 8 0
		paint f abc         -> pm
		need f              -> 16 8 8 0
		paint f a/b/c       -> pm
		need f              -> 12 12 8 0
		paint f a/b/c/d/a/b -> pm
		need f              -> 12 12 4 4
		paint f ab/cd       -> pmm
		need f              -> 16 0 16 0
	`)
}

func TestMatch(t *testing.T) {
	w := start(t, "floor one ##", "floor two ##/##", "floor hall ####/####", "floor apart ##.##", "floor corner ##../..##", "floor long ######")
	play(t, w, `
		match one          -> 1
		match two          -> 0
		paint two a/b      -> pmm
		match two          -> 2
		match hall         -> 0
		paint hall a/b     -> pmm
		match hall         -> 0
		paint hall aab/bba -> pmm
		match hall         -> 4
		paint hall aabb/bbaa -> cmm
		match hall         -> 4
		paint hall aabb/cccc -> pmm
		match hall         -> 2
		match apart        -> 2
		match corner       -> 2
		match long         -> 0
		paint long aabbbb  -> pmm
		match long         -> 1
		paint long aabbaa  -> pmm
		match long         -> 3
		match other        -> ! 6
	`)
	w = start(t, "floor f ##../####/..##", "paint f aaaa/bbcc/aaaa")
	wantReply(t, w, "tiling f", "0,0r 0,1r 2,1r 2,2r")
	wantReply(t, w, "match f", "4")
}

func TestWhy(t *testing.T) {
	w := works.New()
	play(t, w, `
		why ##/##       -> tiles 2
		why #./.#       -> hall
		why #           -> hall
		why .           -> tiles 1
		why ####/####   -> tiles 5
		why ###/#.#/### -> tiles 2
		why ##.#        -> hall
		why ########/########/########/########/########/########/########/######## -> tiles 12988816
		why .#######/########/########/########/########/########/########/#######. -> hall
		why ../a        -> ? word 1
		audit           -> good 0 0 0 0 0 0
	`)
	random := newRandom(7)
	for range 500 {
		r := make([]byte, 0, 40)
		for range 4 {
			for range 5 {
				r = append(r, "#..##"[random.Intn(5)])
			}
			r = append(r, '/')
		}
		rows := string(r[:len(r)-1])
		want := "hall"
		if n, _ := domino.Count(strings.Split(rows, "/")); n > 0 {
			want = fmt.Sprint("tiles ", n)
		}
		wantReply(t, w, "why "+rows, want)
		if _, e := domino.Refute(strings.Split(rows, "/")); (e == api.OK) != (want == "hall") {
			t.Errorf("%s: %s, but Refute %d", rows, want, e)
		}
	}
}

func TestBoxAndCut(t *testing.T) {
	play(t, works.New(), `
		box 2 2 2     -> 20
		box 1 1 1     -> 2
		box 1 2 3     -> 10
		box 4 4 4     -> 232848
		box 0 1 1     -> ! 2
		box 1 5 1     -> ! 2
		box 1 1 -1    -> ! 2
		cut 5 3       -> 3 2 1 1
		cut 3 5       -> 3 2 1 1
		cut 1 1       -> 1
		cut 1000 1000 -> 1000
		cut 16 1      -> 1 1 1 1 1 1 1 1 1 1 1 1 1 1 1 1
		cut 17 1      -> ! 8
		cut 1 1000    -> ! 8
		cut 0 3       -> ! 2
		cut 3 1001    -> ! 2
		cut -5 3      -> ! 2
		cut 1125899906842624 1 -> ! 2
	`)
}

// TestFlipsKeep: flips and draws change neither the number of tilings nor what an unpainted floor needs.
func TestFlipsKeep(t *testing.T) {
	random := newRandom(12)
	for _, rows := range []string{"####/####", "###/###/##.", "########/########/########", "###/#.#/###", ".##./####/####/.##."} {
		w := start(t, "floor f "+rows)
		count, need := w.Exec("why "+rows), w.Exec("need f")
		for range 100 {
			if random.Intn(4) == 0 {
				w.Exec(fmt.Sprint("draw f ", random.Intn(math.MaxInt32)))
			} else {
				w.Exec(fmt.Sprint("flip f ", random.Intn(8), " ", random.Intn(4)))
			}
			r, _ := w.Floor("f")
			if strings.Join(r, "/") != rows {
				t.Fatalf("%q: the region is %q", w.Book(), r)
			}
			wantReply(t, w, "need f", need)
			wantReply(t, w, "why "+strings.Join(r, "/"), count)
		}
	}
}
