package snap_test

// P9.5 (cuts), P9.9 (clocks) and P9.10 (lattice).

import (
	"fmt"
	"math/rand"
	"slices"
	"testing"

	"encaustic/api"
	"encaustic/snap"
)

// wantConsistent wants this of a cut.
func wantConsistent(t *testing.T, n int, events []api.Event, cut []int, want bool) {
	t.Helper()
	if got, e := snap.Consistent(n, events, cut); got != want || e != api.OK {
		t.Errorf("%d stations, %v: Consistent of %v is %v, %d, want %v", n, events, cut, got, e, want)
	}
}

// wantIdeals wants so many consistent cuts.
func wantIdeals(t *testing.T, n int, events []api.Event, want int) {
	t.Helper()
	if got, e := snap.Ideals(n, events); got != want || e != api.OK {
		t.Errorf("%d stations, %v: Ideals is %d, %d, want %d", n, events, got, e, want)
	}
}

// wantBoth wants Consistent and Ideals to have an error.
func wantBoth(t *testing.T, n int, events []api.Event, cut []int, errno api.Errno) {
	t.Helper()
	if ok, e := snap.Consistent(n, events, cut); ok || e != errno {
		t.Errorf("%d stations, %.20v: Consistent of %v is %v, %d, want error %d", n, events, cut, ok, e, errno)
	}
	if count, e := snap.Ideals(n, events); count != 0 || e != errno {
		t.Errorf("%d stations, %.20v: Ideals is %d, %d, want error %d", n, events, count, e, errno)
	}
}

func TestConsistentExamples(t *testing.T) {
	one := []api.Event{sent(0, 1), got(0, 1)}
	two := []api.Event{sent(0, 1), sent(0, 1), made(1), got(0, 1), got(0, 1), sent(1, 0), got(1, 0)}
	for _, c := range []struct {
		n      int
		events []api.Event
		cut    []int
		want   bool
	}{
		{2, nil, []int{0, 0}, true},
		{2, nil, []int{1, 0}, false},
		{2, nil, []int{0, -1}, false},
		{5, nil, []int{0, 0, 0, 0, 0}, true},
		{2, one, []int{0, 0}, true},
		{2, one, []int{1, 0}, true},
		{2, one, []int{1, 1}, true},
		{2, one, []int{0, 1}, false},
		{2, one, []int{2, 1}, false},
		{2, one, []int{-1, 0}, false},
		{2, two, []int{1, 2}, true},
		{2, two, []int{1, 3}, false},
		{2, two, []int{2, 3}, true},
		{2, two, []int{0, 1}, true},
		{2, two, []int{0, 2}, false},
		{2, two, []int{2, 4}, true},
		{2, two, []int{3, 3}, false},
		{2, two, []int{3, 4}, true},
		{2, two, []int{3, 5}, false},
	} {
		wantConsistent(t, c.n, c.events, c.cut, c.want)
	}
}

// TestChannelsAreTheirOwn: parcels are counted by each channel, in its own direction, and from one that nobody receives
// nothing is asked.
func TestChannelsAreTheirOwn(t *testing.T) {
	events := []api.Event{sent(0, 2), sent(0, 1), sent(1, 0), sent(0, 1), got(0, 1), got(1, 0)}
	wantConsistent(t, 3, events, []int{1, 2, 0}, false)
	wantConsistent(t, 3, events, []int{2, 2, 0}, true)
	wantConsistent(t, 3, events, []int{4, 0, 0}, false)
	wantConsistent(t, 3, events, []int{4, 1, 0}, true)
	wantConsistent(t, 3, events, []int{3, 0, 0}, true)
}

// TestChannelToItself: its parcels were sent before they are received, so they ask for nothing.
func TestChannelToItself(t *testing.T) {
	events := []api.Event{sent(0, 0), sent(0, 0), got(0, 0), made(1), got(0, 0)}
	for first := range 5 {
		for second := range 2 {
			wantConsistent(t, 2, events, []int{first, second}, true)
		}
	}
	wantConsistent(t, 2, events, []int{5, 0}, false)
	wantIdeals(t, 2, events, 10)
	wantBoth(t, 2, append(events, got(0, 0)), []int{0, 0}, api.ErrArg)
	wantBoth(t, 2, []api.Event{got(1, 1), sent(1, 1)}, []int{0, 0}, api.ErrArg)
}

// TestWhatCountsForNothing: pieces, clocks, and of what is made the other station.
func TestWhatCountsForNothing(t *testing.T) {
	random := rand.New(rand.NewSource(951))
	for round := range 60 {
		n := 2 + round%4
		events := someEvents(random, n, 12)
		other := slices.Clone(events)
		for i := range other {
			other[i].Pieces, other[i].Clock = -other[i].Pieces, nil
			if other[i].What == api.EventWork {
				other[i].Other = random.Intn(n)
			}
		}
		for _, cut := range everyCut(n, events, 0, 0) {
			wantConsistent(t, n, other, cut, isConsistent(n, events, cut))
		}
		wantIdeals(t, n, other, len(idealsOf(n, events)))
	}
}

func TestEveryCut(t *testing.T) {
	random := rand.New(rand.NewSource(95))
	for round := range 100 {
		n := 2 + round%4
		events := someEvents(random, n, random.Intn(12))
		for _, cut := range everyCut(n, events, -1, 1) {
			wantConsistent(t, n, events, cut, isConsistent(n, events, cut))
		}
		wantIdeals(t, n, events, len(idealsOf(n, events)))
	}
}

func TestIdeals(t *testing.T) {
	var pong []api.Event
	for range 15 {
		pong = append(pong, sent(0, 1), got(0, 1), sent(1, 0), got(1, 0))
	}
	wantIdeals(t, 2, pong, 61)
	wantIdeals(t, 5, pong, 61)
	wantIdeals(t, 2, nil, 1)
	wantIdeals(t, 5, nil, 1)
	wantIdeals(t, 2, chains(1), 2)
	wantIdeals(t, 2, chains(0, 60), 61)
	wantIdeals(t, 2, chains(30, 30), 31*31)
	wantIdeals(t, 3, chains(2, 3, 4), 60)
	wantIdeals(t, 2, []api.Event{sent(0, 1), got(0, 1)}, 3)
	wantIdeals(t, 3, []api.Event{sent(0, 1), got(0, 1), made(2)}, 6)
	wantIdeals(t, 3, []api.Event{sent(0, 1), made(2), got(0, 1), sent(1, 2), got(1, 2)}, 9)
}

// justTooMany are 57 events of five stations with 100001 consistent cuts: 9091, which is a prime number, of the first four,
// and the last one is alone. Parcels go from the 8th event of 0 to the 5th of 1, from the 9th of 1 to the 7th of 2, and from
// the 3rd of 3 to the 5th of 2.
func justTooMany() []api.Event {
	return slices.Concat(
		chain(0, 7), []api.Event{sent(0, 1)}, chain(0, 6),
		chain(3, 2), []api.Event{sent(3, 2)}, chain(3, 7),
		chain(1, 4), []api.Event{got(0, 1)}, chain(1, 3), []api.Event{sent(1, 2)}, chain(1, 1),
		chain(2, 4), []api.Event{got(3, 2)}, chain(2, 1), []api.Event{got(1, 2)}, chain(2, 6),
		chain(4, 10))
}

// TestLimitOfIdeals: 100000 are allowed, one more is not; Consistent has no such limit.
func TestLimitOfIdeals(t *testing.T) {
	most := chains(9, 9, 9, 9, 9)
	wantIdeals(t, 5, most, 100000)
	wantIdeals(t, 4, chains(14, 14, 14, 14), 15*15*15*15)
	wantIdeals(t, 5, justTooMany()[:56], 9091*10)
	for _, events := range [][]api.Event{justTooMany(), append(most, made(0)), chains(12, 12, 12, 12, 12)} {
		if got, e := snap.Ideals(5, events); got != 0 || e != api.ErrFull {
			t.Errorf("of %d events: Ideals is %d, %d", len(events), got, e)
		}
		wantConsistent(t, 5, events, lengths(5, events), true)
	}
}

func TestLimitOfEvents(t *testing.T) {
	wantIdeals(t, 2, chains(60), 61)
	wantConsistent(t, 2, chains(60), []int{60, 0}, true)
	wantConsistent(t, 2, chains(60), []int{61, 0}, false)
	for _, events := range [][]api.Event{chains(61), chains(30, 31), make([]api.Event, 61), make([]api.Event, 100000)} {
		wantBoth(t, 2, events, []int{0, 0}, api.ErrLimit)
		wantBoth(t, 5, events, nil, api.ErrLimit)
	}
	wantBoth(t, 2, append(chains(60), got(0, 1)), []int{0, 0}, api.ErrLimit)
	wantBoth(t, 2, append([]api.Event{{Station: 7}}, chains(60)...), []int{0, 0}, api.ErrLimit)
	for _, n := range []int{-1, 0, 1, 6, 7} {
		wantBoth(t, n, chains(61), make([]int, max(n, 0)), api.ErrArg)
	}
}

func TestErrorsOfStations(t *testing.T) {
	for _, n := range ints() {
		is := n >= 2 && n <= 5
		if is {
			wantConsistent(t, n, nil, make([]int, n), true)
			wantIdeals(t, n, nil, 1)
			continue
		}
		wantBoth(t, n, nil, nil, api.ErrArg)
		wantBoth(t, n, nil, []int{0, 0}, api.ErrArg)
		wantBoth(t, n, nil, []int{0}, api.ErrArg)
		wantBoth(t, n, chains(1, 1), []int{0, 0}, api.ErrArg)
	}
}

// TestErrorsOfEvents has events that are none, at the beginning and at the end.
func TestErrorsOfEvents(t *testing.T) {
	for n := 2; n <= 5; n++ {
		for _, x := range ints() {
			var list []api.Event
			for what := 1; what <= 3; what++ {
				if x < 0 || x >= n {
					list = append(list, api.Event{Station: x, What: what}, api.Event{Other: x, What: what}, api.Event{Station: x, What: what, Other: x})
				}
			}
			if x < 1 || x > 3 {
				list = append(list, api.Event{Station: 1, What: x})
			}
			for _, e := range list {
				wantBoth(t, n, []api.Event{e}, make([]int, n), api.ErrArg)
				wantBoth(t, n, []api.Event{sent(0, 0), sent(1, 0), made(1), e}, make([]int, n), api.ErrArg)
				wantBoth(t, n, []api.Event{e, made(1)}, make([]int, n), api.ErrArg)
			}
		}
	}
}

// TestEveryEvent: each event is allowed after a parcel was sent by its channel.
func TestEveryEvent(t *testing.T) {
	for n := 2; n <= 5; n++ {
		for one := range n {
			for other := range n {
				for what := 1; what <= 3; what++ {
					events := []api.Event{sent(other, one), {Station: one, What: what, Other: other}}
					if _, e := snap.Consistent(n, events, make([]int, n)); e != api.OK {
						t.Errorf("%d stations, %v: error %d", n, events, e)
					}
				}
			}
		}
	}
}

// TestNoParcelIsLeft: one that was not sent yet, or in the other direction, or was received already.
func TestNoParcelIsLeft(t *testing.T) {
	for _, events := range [][]api.Event{
		{got(0, 1)},
		{got(0, 1), sent(0, 1)},
		{sent(1, 0), got(0, 1)},
		{sent(0, 1), got(1, 0)},
		{sent(0, 2), got(0, 1)},
		{sent(2, 1), got(0, 1)},
		{sent(0, 0), got(0, 1)},
		{sent(0, 1), got(0, 1), got(0, 1)},
		{sent(0, 1), got(0, 1), got(0, 1), sent(0, 1)},
		{sent(0, 1), sent(0, 1), got(0, 1), got(0, 1), sent(2, 1), got(0, 1)},
	} {
		wantBoth(t, 3, events, []int{0, 0, 0}, api.ErrArg)
		wantBoth(t, 5, events, []int{0, 0, 0, 0, 0}, api.ErrArg)
	}
	wantIdeals(t, 2, []api.Event{sent(0, 1), got(0, 1), sent(0, 1), got(0, 1)}, 6)
}

// TestErrorsOfCuts: the wrong length is an error, a count of any size is none.
func TestErrorsOfCuts(t *testing.T) {
	events := chains(1, 2)
	for n := 2; n <= 5; n++ {
		for length := range 9 {
			cut := make([]int, length)
			if length == n {
				wantConsistent(t, n, events, cut, true)
			} else if ok, e := snap.Consistent(n, events, cut); ok || e != api.ErrArg {
				t.Errorf("%d stations: Consistent of %v is %v, %d", n, cut, ok, e)
			}
		}
	}
	if ok, e := snap.Consistent(2, events, make([]int, 100000)); ok || e != api.ErrArg {
		t.Errorf("Consistent of a long cut is %v, %d", ok, e)
	}
	for _, x := range ints() {
		wantConsistent(t, 2, events, []int{x, 0}, x == 0 || x == 1)
		wantConsistent(t, 2, events, []int{0, x}, x >= 0 && x <= 2)
	}
}

// short is a net with few events.
func short(t *testing.T, random *rand.Rand, n int) *both {
	t.Helper()
	b := walk(t, random, n, 0)
	for b.diary.events < 10 {
		b.step(t, random)
	}
	return b
}

// TestConsistentIsClosedUnderBefore: a cut is consistent exactly if it has with each event all events Before it.
func TestConsistentIsClosedUnderBefore(t *testing.T) {
	random := rand.New(rand.NewSource(992))
	for round := range 60 {
		n := 2 + round%4
		events := short(t, random, n).net.Events()
		place := places(events)
		for _, cut := range everyCut(n, events, 0, 0) {
			closed := true
			for i, e := range events {
				for j, f := range events {
					if place[j] <= cut[f.Station] && place[i] > cut[e.Station] && snap.Before(e, f) {
						closed = false
					}
				}
			}
			wantConsistent(t, n, events, cut, closed)
		}
	}
}

// TestLattice: the lesser and the greater counts of two consistent cuts are consistent, and there are more than events.
func TestLattice(t *testing.T) {
	random := rand.New(rand.NewSource(910))
	for round := range 40 {
		n := 2 + round%4
		events := someEvents(random, n, 10)
		if round%2 == 0 {
			events = short(t, random, n).net.Events()
		}
		ideals := idealsOf(n, events)
		if count, e := snap.Ideals(n, events); count != len(ideals) || count <= len(events) || e != api.OK {
			t.Errorf("%d stations, %v: Ideals is %d, %d, want %d", n, events, count, e, len(ideals))
		}
		for range 300 {
			a, b := ideals[random.Intn(len(ideals))], ideals[random.Intn(len(ideals))]
			low, high := slices.Clone(a), slices.Clone(a)
			for i := range a {
				low[i], high[i] = min(a[i], b[i]), max(a[i], b[i])
			}
			wantConsistent(t, n, events, low, true)
			wantConsistent(t, n, events, high, true)
		}
	}
}

// TestOrderOfStations: the same events with the stations in another order have as many consistent cuts.
func TestOrderOfStations(t *testing.T) {
	random := rand.New(rand.NewSource(911))
	for range 20 {
		events := someEvents(random, 5, 40)
		want, errno := snap.Ideals(5, events)
		names := random.Perm(5)
		for i, e := range events {
			events[i].Station, events[i].Other = names[e.Station], names[e.Other]
		}
		if got, e := snap.Ideals(5, events); got != want || e != errno {
			t.Errorf("%s: Ideals is %d, %d, want %d, %d", fmt.Sprint(names), got, e, want, errno)
		}
	}
}
