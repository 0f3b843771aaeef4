package pattern_test

// P6.6 (Then, Apply, Smallest), P6.7 (a group): moves are followed cell by cell.

import (
	"math/rand"
	"slices"
	"testing"

	"encaustic/api"
	"encaustic/pattern"
)

func TestThenExamples(t *testing.T) {
	for _, c := range []struct{ a, b, want api.Move }{
		{move(0, 2, 0), move(1, 0, 1), move(1, 0, 3)},
		{move(1, 0, 1), move(0, 2, 0), move(1, 2, 1)},
		{move(1, 0, 0), move(1, 0, 0), move(2, 0, 0)},
		{move(1, 0, 0), move(4, 0, 0), move(7, 0, 0)},
		{move(4, 0, 0), move(1, 0, 0), move(6, 0, 0)},
		{move(4, 5, 7), move(4, 5, 7), move(0, 10, 0)},
		{move(1, 3, -4), move(3, 4, 3), move(0, 0, 0)},
		{api.Move{}, move(3, 4, 5), api.Move{E: 4, F: 5}},
		{api.Move{A: 1, B: 2, C: 3, D: 4, E: 5, F: 6}, api.Move{A: 7, B: 8, C: 9, D: 10, E: 11, F: 12}, api.Move{A: 31, B: 46, C: 39, D: 58, E: 94, F: 117}},
		{move(0, greatest, least), move(0, 1, -1), move(0, least, greatest)},
		{move(0, 1<<40, 3), api.Move{A: 1 << 40, D: 1 << 62}, api.Move{A: 1 << 40, D: 1 << 62, F: -1 << 62}},
	} {
		if got := pattern.Then(c.a, c.b); got != c.want {
			t.Errorf("%v and then %v is %v, want %v", c.a, c.b, got, c.want)
		}
	}
}

// TestThenIsOneAfterTheOther with numbers of all sizes: they go round in the same way.
func TestThenIsOneAfterTheOther(t *testing.T) {
	r := rand.New(rand.NewSource(3))
	for range 2000 {
		number := func() int { return int(r.Uint64()) >> r.Intn(64) }
		anyMove := func() api.Move {
			return api.Move{A: number(), B: number(), C: number(), D: number(), E: number(), F: number()}
		}
		a, b := anyMove(), anyMove()
		both := pattern.Then(a, b)
		for range 5 {
			x, y := number(), number()
			gotX, gotY := image(both, x, y)
			ax, ay := image(a, x, y)
			if wantX, wantY := image(b, ax, ay); gotX != wantX || gotY != wantY {
				t.Errorf("%v and then %v is %v: it takes %d, %d to %d, %d, want %d, %d", a, b, both, x, y, gotX, gotY, wantX, wantY)
			}
		}
	}
}

func TestApplyExamples(t *testing.T) {
	for _, c := range []struct {
		p    []string
		m    api.Move
		want []string
	}{
		{[]string{"abc"}, move(0, 0, 0), []string{"abc"}},
		{[]string{"abc"}, move(0, 1, 0), []string{"cab"}},
		{[]string{"abc"}, move(0, -1, 5), []string{"bca"}},
		{[]string{"abc"}, move(0, 1000, -1000), []string{"cab"}},
		{[]string{"abc"}, move(1, 0, 0), []string{"a", "b", "c"}},
		{[]string{"abc"}, move(1, 0, 1), []string{"c", "a", "b"}},
		{[]string{"abc"}, move(2, 0, 0), []string{"acb"}},
		{[]string{"abc"}, move(3, 0, 0), []string{"a", "c", "b"}},
		{[]string{"abc"}, move(4, 0, 0), []string{"abc"}},
		{[]string{"abc"}, move(5, 2, 0), []string{"cba"}},
		{[]string{"abc"}, move(6, 0, 0), []string{"a", "b", "c"}},
		{[]string{"abc"}, move(7, 0, 0), []string{"a", "c", "b"}},
		{[]string{"abc", "ddd"}, move(1, 0, 0), []string{"ad", "bd", "cd"}},
		{[]string{"abc", "ddd"}, move(1, 1, 0), []string{"da", "db", "dc"}},
		{[]string{"abc", "ddd"}, move(4, 0, 1), []string{"ddd", "abc"}},
		{[]string{"abab", "abab"}, move(6, 0, 0), []string{"aa", "bb", "aa", "bb"}},
	} {
		if got, e := pattern.Apply(c.p, c.m); !slices.Equal(got, c.want) || e != api.OK {
			t.Errorf("%q after %v is %q, %d, want %q", c.p, c.m, got, e, c.want)
		}
	}
}

// shifts are values of E and F.
func shifts() []int { return []int{-1000, -999, -61, -7, -1, 0, 1, 2, 5, 30, 997, 1000} }

// TestApplyTakesColours looks at cells on all sides.
func TestApplyTakesColours(t *testing.T) {
	all := shifts()
	for i, p := range fewPatterns() {
		for kind := range 8 {
			m := move(kind, all[(i+kind)%len(all)], all[(i/3+5*kind)%len(all)])
			got, e := pattern.Apply(p, m)
			must(t, e)
			w, h := len(p[0]), len(p)
			if kinds()[kind].A == 0 { // it exchanges X and Y
				w, h = h, w
			}
			if len(got) != h || len(got[0]) != w {
				t.Fatalf("%q after %v is %q", p, m, got)
			}
			for x := -8; x <= 8; x++ {
				for y := -8; y <= 8; y++ {
					tx, ty := image(m, x, y)
					if colour(got, tx, ty) != colour(p, x, y) {
						t.Errorf("%q after %v is %q, with another colour at %d, %d", p, m, got, tx, ty)
					}
				}
			}
		}
	}
}

// TestApplyFollowsThen: one move after the other is the move that Then tells.
func TestApplyFollowsThen(t *testing.T) {
	for i, p := range fewPatterns() {
		for first := range 8 {
			for second := range 8 {
				a, b := move(first, i%11-5, i%7), move(second, i%5, i%13-6)
				half, e := pattern.Apply(p, a)
				must(t, e)
				got, e := pattern.Apply(half, b)
				must(t, e)
				want, e := pattern.Apply(p, pattern.Then(a, b))
				if !slices.Equal(got, want) || e != api.OK {
					t.Errorf("%q after %v is %q, after %v then %q, want %q, %d", p, a, half, b, got, want, e)
				}
			}
		}
	}
}

// isSameFloor compares cells up to the longest common period, and beyond.
func isSameFloor(p, q []string) bool {
	for x := range 60 {
		for y := range 60 {
			if colour(p, x, y) != colour(q, x, y) {
				return false
			}
		}
	}
	return true
}

// TestApplySymmetry: it leaves the floor as it is, and the pattern if its measures stay; other moves do not.
func TestApplySymmetry(t *testing.T) {
	for _, p := range fewPatterns() {
		k := know(p)
		for kind := range 8 {
			for e := range 6 {
				for f := range 6 {
					q, errno := pattern.Apply(p, move(kind, e, f))
					must(t, errno)
					is := k.has(kind, e, f)
					if isSameFloor(p, q) != is || is && len(p) == len(q) && !slices.Equal(p, q) {
						t.Errorf("%q after %v is %q; that it is a symmetry is %t", p, move(kind, e, f), q, is)
					}
				}
			}
		}
	}
}

// notMoves are moves that Apply does not take.
func notMoves() []api.Move {
	list := []api.Move{
		{},
		{A: 1},
		{D: 1},
		{A: 1, B: 1},
		{A: 1, C: 1},
		{B: 1},
		{C: -1},
		{A: 1, B: 1, D: 1},
		{A: 1, C: -1, D: 1},
		{A: 1, B: 1, C: 1, D: 1},
		{A: -1, B: 1, C: 1, D: -1},
		{A: 2, D: 1},
		{A: 1, D: 2},
		{A: -2, D: -2},
		{B: 2, C: 2},
		{B: greatest, C: 1},
		{A: least, D: least},
		{A: 1<<32 + 1, D: 1<<32 + 1},
	}
	for kind := range 8 {
		for _, n := range []int{least, least + 1, -1 << 32, -1001, 1001, 1 << 32, greatest} {
			list = append(list, move(kind, n, 0), move(kind, 0, n), move(kind, n, n), move(kind, -1000, n))
		}
	}
	return list
}

func TestApplyErrors(t *testing.T) {
	for _, m := range notMoves() {
		for _, p := range [][]string{{"a"}, {"abc", "cab"}, {"ae"}, nil} {
			if got, e := pattern.Apply(p, m); len(got) != 0 || e != api.ErrArg {
				t.Errorf("%q after %v is %q, %d, want ErrArg", p, m, got, e)
			}
		}
	}
	for kind := range 8 {
		for _, x := range shifts() {
			for _, y := range shifts() {
				if got, e := pattern.Apply([]string{"ab", "cd"}, move(kind, x, y)); len(got) != 2 || e != api.OK {
					t.Errorf("after %v it is %q, %d", move(kind, x, y), got, e)
				}
			}
		}
	}
}

func TestSmallestExamples(t *testing.T) {
	for _, c := range []struct{ p, want []string }{
		{[]string{"a"}, []string{"a"}},
		{[]string{"dddddd", "dddddd", "dddddd", "dddddd", "dddddd", "dddddd"}, []string{"d"}},
		{[]string{"abab", "abab"}, []string{"ab"}},
		{[]string{"baba"}, []string{"ba"}},
		{[]string{"aabaab"}, []string{"aab"}},
		{[]string{"ab", "ba"}, []string{"ab", "ba"}},
		{[]string{"abab", "baba", "abab", "baba"}, []string{"ab", "ba"}},
		{[]string{"abc", "cab", "bca"}, []string{"abc", "cab", "bca"}},
		{[]string{"abcabc", "cabcab", "bcabca", "abcabc", "cabcab", "bcabca"}, []string{"abc", "cab", "bca"}},
		{[]string{"aa", "bb", "aa", "bb"}, []string{"a", "b"}},
		{[]string{"aba", "aba"}, []string{"aba"}},
		{[]string{"ababa"}, []string{"ababa"}},
		{[]string{"abab", "abac"}, []string{"abab", "abac"}},
		{[]string{"aabb", "bbaa"}, []string{"aabb", "bbaa"}},
		{aperiodic(6, 6), aperiodic(6, 6)},
	} {
		if got, e := pattern.Smallest(c.p); !slices.Equal(got, c.want) || e != api.OK {
			t.Errorf("%q: Smallest is %q, %d, want %q", c.p, got, e, c.want)
		}
	}
}

// beginning is the pattern's floor from 0, 0 on.
func beginning(p []string, w, h int) []string {
	cells := make([]byte, w*h)
	for i := range cells {
		cells[i] = colour(p, i%w, i/w)
	}
	return rowsOf(cells, w)
}

// slowSmallest tries all measures, the fewest columns and then rows first.
func slowSmallest(p []string) []string {
	for w := 1; w <= 6; w++ {
		for h := 1; h <= 6; h++ {
			if q := beginning(p, w, h); isSameFloor(p, q) {
				return q
			}
		}
	}
	return nil
}

func TestSmallestIsFirstOfAllMeasures(t *testing.T) {
	for _, p := range fewPatterns() {
		q, e := pattern.Smallest(p)
		if want := slowSmallest(p); !slices.Equal(q, want) || e != api.OK {
			t.Errorf("%q: Smallest is %q, %d, want %q", p, q, e, want)
		}
		for _, other := range doubled(p) {
			if got, e := pattern.Smallest(other); !slices.Equal(got, q) || e != api.OK {
				t.Errorf("%q: Smallest is %q, %d, and of %q %q", other, got, e, p, q)
			}
		}
	}
}
