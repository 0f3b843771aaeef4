package sample_test

// P8.3 (Met, Past), P8.8 (from the past) and P8.9 (meeting).

import (
	"math/rand"
	"slices"
	"testing"

	"encaustic/api"
	"encaustic/height"
	"encaustic/sample"
)

// met is what Met or Past returned.
type met struct {
	tiling []api.Domino
	number int
	errno  api.Errno
}

func metOf(tiling []api.Domino, number int, e api.Errno) met { return met{tiling, number, e} }

func (m met) is(other met) bool {
	return slices.Equal(m.tiling, other.tiling) && m.number == other.number && m.errno == other.errno
}

func TestMetAndPastExamples(t *testing.T) {
	flat, upright := []api.Domino{across(0, 0), across(0, 1)}, []api.Domino{down(0, 0), down(1, 0)}
	still, one := up(0, 0), []api.Domino{across(0, 0)}
	bound := met{nil, 0, api.ErrBound}
	for _, c := range []struct {
		r         []string
		moves     []api.Nudge
		met, past met
	}{
		{rectangle(2, 2), []api.Nudge{up(1, 1)}, met{flat, 1, api.OK}, met{flat, 1, api.OK}},
		{rectangle(2, 2), []api.Nudge{fall(1, 1)}, met{upright, 1, api.OK}, met{upright, 1, api.OK}},
		{rectangle(2, 2), []api.Nudge{up(1, 1), fall(1, 1)}, met{upright, 1, api.OK}, met{upright, 1, api.OK}},
		{rectangle(2, 2), nil, bound, bound},
		{rectangle(2, 2), []api.Nudge{still}, bound, bound},
		{rectangle(2, 2), []api.Nudge{still, still, still, still, still}, bound, bound},
		{rectangle(2, 2), []api.Nudge{up(1, 1), still}, met{flat, 1, api.OK}, met{flat, 2, api.OK}},
		{rectangle(2, 2), []api.Nudge{up(1, 1), still, still}, met{flat, 1, api.OK}, met{flat, 3, api.OK}},
		{rectangle(2, 2), []api.Nudge{still, up(1, 1), still}, met{flat, 2, api.OK}, met{flat, 2, api.OK}},
		{rectangle(2, 2), []api.Nudge{still, up(1, 1), still, still}, met{flat, 2, api.OK}, met{flat, 4, api.OK}},
		{rectangle(2, 2), []api.Nudge{up(1, 1), still, still, still, still}, met{flat, 1, api.OK}, met{flat, 5, api.OK}},
		{rectangle(2, 2), []api.Nudge{still, up(1, 1), still, still, still}, met{flat, 2, api.OK}, met{flat, 4, api.OK}},
		{rectangle(2, 2), []api.Nudge{still, still, up(1, 1), fall(1, 1), still}, met{upright, 3, api.OK}, met{upright, 2, api.OK}},
		{rectangle(2, 1), nil, met{one, 0, api.OK}, met{one, 0, api.OK}},
		{rectangle(2, 1), []api.Nudge{still}, met{one, 0, api.OK}, met{one, 1, api.OK}},
		{rectangle(2, 1), []api.Nudge{still, up(1, 1), still}, met{one, 0, api.OK}, met{one, 1, api.OK}},
		{rectangle(3, 2), []api.Nudge{up(1, 1), up(2, 1)}, bound, bound},
		{rectangle(3, 2), []api.Nudge{up(2, 1), up(1, 1)}, met{[]api.Domino{across(0, 0), down(2, 0), across(0, 1)}, 2, api.OK},
			met{[]api.Domino{across(0, 0), down(2, 0), across(0, 1)}, 2, api.OK}},
	} {
		if got := metOf(sample.Met(c.r, c.moves)); !got.is(c.met) {
			t.Errorf("Met(%q, %v) = %v, want %v", c.r, c.moves, got, c.met)
		}
		if got := metOf(sample.Past(c.r, c.moves)); !got.is(c.past) {
			t.Errorf("Past(%q, %v) = %v, want %v", c.r, c.moves, got, c.past)
		}
	}
}

// checkMeeting compares with the slow ways, and tells whether Least and Greatest met.
func checkMeeting(t *testing.T, r []string, moves []api.Nudge) bool {
	t.Helper()
	got := metOf(sample.Met(r, moves))
	if want := metOf(slowMet(t, r, moves)); !got.is(want) {
		t.Fatalf("Met(%q, %v) = %v, want %v", r, moves, got, want)
	}
	past := metOf(sample.Past(r, moves))
	if want := metOf(slowPast(t, r, moves)); !past.is(want) {
		t.Fatalf("Past(%q, %v) = %v, want %v", r, moves, past, want)
	}
	if got.errno != past.errno || !slices.Equal(got.tiling, past.tiling) {
		t.Errorf("%q, %v: Met is %v, Past %v", r, moves, got, past)
	}
	return got.errno == api.OK
}

func TestMeetingOfRandomMoves(t *testing.T) {
	random := rand.New(rand.NewSource(83))
	found := map[bool]int{}
	for _, r := range severalTilings() {
		rank, _ := height.Rank(r)
		for n := range 12 {
			found[checkMeeting(t, r, randomMoves(random, r, n))]++
			found[checkMeeting(t, r, innerMoves(t, random, r, rank*n))]++
		}
	}
	if found[true] < 300 || found[false] < 300 {
		t.Errorf("met and not met: %v", found)
	}
}

// sweep is each of Points in one direction, n times.
func sweep(t *testing.T, r []string, upwards bool, n int) []api.Nudge {
	t.Helper()
	points, e := sample.Points(r)
	if e != api.OK {
		t.Fatalf("%q: error %d", r, e)
	}
	var moves []api.Nudge
	for range n {
		for _, p := range points {
			moves = append(moves, api.Nudge{X: p.X, Y: p.Y, Up: upwards})
		}
	}
	return moves
}

// TestSweepsMeet: as many sweeps as the rank are enough, since each one lifts a height of what is not the greatest.
func TestSweepsMeet(t *testing.T) {
	for _, r := range append(smallPlain(), largePlain()...) {
		low, high := extremes(t, r)
		rank, _ := height.Rank(r)
		for _, c := range []struct {
			upwards bool
			want    []api.Domino
		}{{true, high}, {false, low}} {
			moves := sweep(t, r, c.upwards, rank)
			got := metOf(sample.Met(r, moves))
			if got.errno != api.OK || !slices.Equal(got.tiling, c.want) || rank > 0 == (got.number == 0) {
				t.Errorf("%q, %d sweeps, up %v: %v, want %v", r, rank, c.upwards, got, c.want)
			}
			past := metOf(sample.Past(r, moves))
			if past.errno != api.OK || !slices.Equal(past.tiling, c.want) {
				t.Errorf("%q, %d sweeps, up %v, from the past: %v, want %v", r, rank, c.upwards, past, c.want)
			}
			if got.number == 0 {
				continue
			}
			if short := metOf(sample.Met(r, moves[:got.number])); !short.is(got) {
				t.Errorf("%q: after the first %d moves: %v, want %v", r, got.number, short, got)
			}
			if short := metOf(sample.Met(r, moves[:got.number-1])); !short.is(met{nil, 0, api.ErrBound}) {
				t.Errorf("%q: before the last of %d moves: %v", r, got.number, short)
			}
		}
	}
}

// checkAllCome wants the moves, if Met succeeds, to bring every tiling to the same one, whatever comes before them.
func checkAllCome(t *testing.T, r []string, all [][]api.Domino, before, moves []api.Nudge) {
	t.Helper()
	got := metOf(sample.Met(r, moves))
	if got.errno != api.OK {
		return
	}
	for _, tiling := range all {
		if end, e := sample.Nudged(r, tiling, moves); !slices.Equal(end, got.tiling) || e != api.OK {
			t.Errorf("%q: %v takes %v to %v, %d, but they meet at %v", r, moves, tiling, end, e, got.tiling)
		}
	}
	longer := metOf(sample.Met(r, slices.Concat(before, moves)))
	if longer.errno != api.OK || !slices.Equal(longer.tiling, got.tiling) || longer.number > len(before)+got.number {
		t.Errorf("%q: %v and then %v: %v, want %v", r, before, moves, longer, got.tiling)
	}
	past := metOf(sample.Past(r, slices.Concat(before, moves)))
	if past.errno != api.OK || !slices.Equal(past.tiling, got.tiling) {
		t.Errorf("%q: from the past, %v and then %v: %v, want %v", r, before, moves, past, got.tiling)
	}
	last := metOf(sample.Met(r, slices.Concat(before, moves)[len(before)+len(moves)-past.number:]))
	if last.errno != api.OK || !slices.Equal(last.tiling, got.tiling) {
		t.Errorf("%q: the last %d of %v: %v, want %v", r, past.number, moves, last, got.tiling)
	}
}

func TestEveryTilingComesToTheSame(t *testing.T) {
	random := rand.New(rand.NewSource(88))
	for _, r := range severalTilings() {
		rank, _ := height.Rank(r)
		for n := range 6 {
			checkAllCome(t, r, tilings(r), randomMoves(random, r, 7), innerMoves(t, random, r, 2*rank*n))
		}
	}
	for _, r := range largePlain() {
		before := innerMoves(t, random, r, 200)
		checkAllCome(t, r, someTilings(t, r, 5), before, innerMoves(t, random, r, 15000))
	}
}

// TestMeetingOfAllShortLists makes all lists of five moves at the two points of two by three.
func TestMeetingOfAllShortLists(t *testing.T) {
	all := []api.Nudge{up(1, 1), fall(1, 1), up(1, 2), fall(1, 2)}
	for number := range 1 << 10 {
		var moves []api.Nudge
		for i := range 5 {
			moves = append(moves, all[number>>(2*i)&3])
		}
		checkMeeting(t, rectangle(2, 3), moves)
	}
}

// TestFromThePastIsNearlyUniform draws many times from seeds, and compares how often each tiling comes with how often
// it should, by the sum of squares; a fair one exceeds the bound once in a million of such tests.
func TestFromThePastIsNearlyUniform(t *testing.T) {
	r := []string{"####", "####", "###.", "#..."}
	const draws = 3000
	found := map[int]int{}
	for seed := range uint64(draws) {
		moves, _ := sample.Bits(r, seed*0x9E3779B97F4A7C15, 400)
		got := metOf(sample.Past(r, moves))
		if got.errno != api.OK {
			t.Fatalf("seed %d: %v", seed, got)
		}
		i, _ := sample.Index(r, got.tiling)
		found[i]++
	}
	sum, each := 0.0, draws/6.0
	for i := range 6 {
		sum += (float64(found[i]) - each) * (float64(found[i]) - each) / each
	}
	if sum > 36 || len(found) != 6 {
		t.Errorf("%v: %v", found, sum)
	}
}
