package snap_test

// What the other tests share: a diary, which is a slow net that keeps only what each station has seen and computes all
// else from that; cuts and clocks found by following what could have caused what; and random nets and events.

import (
	"fmt"
	"math"
	"math/rand"
	"slices"
	"testing"

	"encaustic/api"
	"encaustic/snap"
)

// What a station has seen, beside what is an event.
const (
	began   = 10 // it recorded for a snapshot
	stopped = 11 // it received a marker
)

// line is what a station has seen: an event, or what a snapshot had to do with it (no is the number of the snapshot).
type line struct {
	what, other, pieces, no int
	id                      int // the number of an event, from 0 on, in the order in which they were done
	cause                   int // of a parcel that was received: the event that sent it
}

// letter is a message that is not received yet.
type letter struct{ from, to, pieces, no, cause int }

// diary is a slow net: the pieces at the beginning, what each station has seen, all letters in the order in which they
// were put, and how many events and snapshots there are.
type diary struct {
	pieces            []int
	seen              [][]line
	letters           []letter
	events, snapshots int
}

func newDiary(pieces []int) *diary {
	return &diary{pieces: slices.Clone(pieces), seen: make([][]line, len(pieces))}
}

func (d *diary) copied() *diary {
	c := *d
	c.seen, c.letters = nil, slices.Clone(d.letters)
	for _, l := range d.seen {
		c.seen = append(c.seen, slices.Clone(l))
	}
	return &c
}

// note writes an event down, and returns its number.
func (d *diary) note(at int, l line) int {
	l.id = d.events
	d.seen[at] = append(d.seen[at], l)
	d.events++
	return l.id
}

// has tells whether there are such stations.
func (d *diary) has(stations ...int) bool {
	return !slices.ContainsFunc(stations, func(s int) bool { return s < 0 || s >= len(d.pieces) })
}

func (d *diary) work(at, pieces int) api.Errno {
	if !d.has(at) || pieces < 1 || pieces > 1000000 {
		return api.ErrArg
	}
	if d.events == 400 {
		return api.ErrFull
	}
	d.note(at, line{what: 1, other: at, pieces: pieces})
	return api.OK
}

func (d *diary) send(from, to, pieces int) api.Errno {
	if !d.has(from, to) || from == to || pieces < 1 || pieces > 1000000 {
		return api.ErrArg
	}
	if d.stock(from, len(d.seen[from])) < pieces {
		return api.ErrPlan
	}
	if d.events == 400 {
		return api.ErrFull
	}
	cause := d.note(from, line{what: 2, other: to, pieces: pieces})
	d.letters = append(d.letters, letter{from: from, to: to, pieces: pieces, cause: cause})
	return api.OK
}

func (d *diary) receive(from, to int) api.Errno {
	if !d.has(from, to) || from == to {
		return api.ErrArg
	}
	i := slices.IndexFunc(d.letters, func(l letter) bool { return l.from == from && l.to == to })
	if i < 0 {
		return api.ErrNone
	}
	l := d.letters[i]
	if l.no == 0 && d.events == 400 {
		return api.ErrFull
	}
	d.letters = slices.Delete(d.letters, i, i+1)
	if l.no == 0 {
		d.note(to, line{what: 3, other: from, pieces: l.pieces, cause: l.cause})
		return api.OK
	}
	d.begin(to, l.no)
	d.seen[to] = append(d.seen[to], line{what: stopped, other: from, no: l.no})
	return api.OK
}

func (d *diary) start(at int) (int, api.Errno) {
	if !d.has(at) {
		return 0, api.ErrArg
	}
	if d.snapshots == 8 {
		return 0, api.ErrFull
	}
	d.snapshots++
	d.begin(at, d.snapshots)
	return d.snapshots, api.OK
}

// begin writes down that a station records, if it did not do so before, and sends markers.
func (d *diary) begin(at, no int) {
	if d.place(at, began, 0, no) >= 0 {
		return
	}
	d.seen[at] = append(d.seen[at], line{what: began, no: no})
	for to := range d.pieces {
		if to != at {
			d.letters = append(d.letters, letter{from: at, to: to, no: no})
		}
	}
}

// place is where a station has seen something of a snapshot, or -1.
func (d *diary) place(at, what, other, no int) int {
	return slices.Index(d.seen[at], line{what: what, other: other, no: no})
}

// stock is the pieces of a station after the first so many lines.
func (d *diary) stock(at, lines int) int {
	sum := d.pieces[at]
	for _, l := range d.seen[at][:lines] {
		switch l.what {
		case 1, 3:
			sum += l.pieces
		case 2:
			sum -= l.pieces
		}
	}
	return sum
}

func (d *diary) waiting(from, to int) []int {
	var list []int
	for _, l := range d.letters {
		if l.from == from && l.to == to {
			list = append(list, l.pieces-l.no)
		}
	}
	return list
}

// isDone tells whether each station has begun, and stopped listening to each other one.
func (d *diary) isDone(no int) bool {
	for at := range d.pieces {
		for other := range d.pieces {
			if other != at && d.place(at, stopped, other, no) < 0 {
				return false
			}
		}
	}
	return true
}

// cut is how many events each station had done when it began.
func (d *diary) cut(no int) []int {
	var list []int
	for at := range d.pieces {
		count := 0
		for _, l := range d.seen[at][:d.place(at, began, 0, no)] {
			if l.what <= 3 {
				count++
			}
		}
		list = append(list, count)
	}
	return list
}

func (d *diary) snapshot(no int) api.Snapshot {
	s := api.Snapshot{}
	for from := range d.pieces {
		s.Pieces = append(s.Pieces, d.stock(from, d.place(from, began, 0, no)))
		var rows [][]int
		for to := range d.pieces {
			rows = append(rows, d.under(from, to, no))
		}
		s.Under = append(s.Under, rows)
	}
	return s
}

// under is what a station received from another one after it began and before it stopped.
func (d *diary) under(from, to, no int) []int {
	if from == to {
		return nil
	}
	var list []int
	for _, l := range d.seen[to][d.place(to, began, 0, no):d.place(to, stopped, from, no)] {
		if l.what == 3 && l.other == from {
			list = append(list, l.pieces)
		}
	}
	return list
}

// total is what there was at the beginning and what was made.
func (d *diary) total() int {
	sum := 0
	for at, seen := range d.seen {
		sum += d.pieces[at]
		for _, l := range seen {
			if l.what == 1 {
				sum += l.pieces
			}
		}
	}
	return sum
}

// list is all events; a clock counts, for each station, the events that could have caused the event, and itself.
func (d *diary) list() []api.Event {
	list := make([]api.Event, d.events)
	causes := make([]map[int]bool, d.events)
	at := make([]int, d.events)
	for id := range list {
		s, i := d.find(id)
		l := d.seen[s][i]
		at[id], causes[id] = s, map[int]bool{id: true}
		var direct []int
		if l.what == 3 {
			direct = append(direct, l.cause)
		}
		for _, earlier := range d.seen[s][:i] {
			if earlier.what <= 3 {
				direct = append(direct, earlier.id)
			}
		}
		clock := make([]int, len(d.pieces))
		for _, c := range direct {
			for other := range causes[c] {
				causes[id][other] = true
			}
		}
		for c := range causes[id] {
			clock[at[c]]++
		}
		list[id] = api.Event{Station: s, What: l.what, Other: l.other, Pieces: l.pieces, Clock: clock}
	}
	return list
}

// find is the station and the line of an event.
func (d *diary) find(id int) (int, int) {
	for at, seen := range d.seen {
		i := slices.IndexFunc(seen, func(l line) bool { return l.what <= 3 && l.id == id })
		if i >= 0 {
			return at, i
		}
	}
	return -1, -1
}

// text writes down all that a diary says, as look does with a net.
func (d *diary) text() string {
	text := ""
	for at := range d.pieces {
		text += fmt.Sprintln(at, "has", d.stock(at, len(d.seen[at])))
		for to := range d.pieces {
			if at != to {
				text += fmt.Sprintln(at, to, d.waiting(at, to), api.OK)
			}
		}
	}
	for no := range d.snapshots {
		done, cut, s, e := d.isDone(no+1), []int(nil), api.Snapshot{}, api.ErrState
		if done {
			cut, s, e = d.cut(no+1), d.snapshot(no+1), api.OK
		}
		text += fmt.Sprintln(no+1, done, api.OK, cut, e, s, e)
	}
	text += fmt.Sprintln(d.snapshots+1, false, api.ErrNone, []int(nil), api.ErrNone, api.Snapshot{}, api.ErrNone)
	return text + fmt.Sprintln(d.total(), d.list())
}

// look writes down all that a net shows; snapshots is how many were begun.
func look(t *snap.Net, snapshots int) string {
	text, pieces := "", t.Pieces()
	for at := range pieces {
		text += fmt.Sprintln(at, "has", pieces[at])
		for to := range pieces {
			if at != to {
				list, e := t.Waiting(at, to)
				text += fmt.Sprintln(at, to, list, e)
			}
		}
	}
	for no := range snapshots + 1 {
		done, e := t.Done(no + 1)
		cut, f := t.Cut(no + 1)
		s, g := t.Snapshot(no + 1)
		text += fmt.Sprintln(no+1, done, e, cut, f, s, g)
	}
	return text + fmt.Sprintln(t.Total(), t.Events())
}

// both is a net and its diary.
type both struct {
	net   *snap.Net
	diary *diary
	done  string // what was done, for messages
}

func newBoth(t *testing.T, pieces ...int) *both {
	t.Helper()
	net, e := snap.New(pieces)
	if net == nil || e != api.OK {
		t.Fatalf("New(%v) = %v, %d", pieces, net, e)
	}
	return &both{net, newDiary(pieces), fmt.Sprint(pieces)}
}

func (b *both) copied() *both {
	return &both{b.net.Copy(), b.diary.copied(), b.done}
}

// same wants the same errors.
func (b *both) same(t *testing.T, what string, got, want api.Errno) {
	t.Helper()
	b.done += what
	if got != want {
		t.Fatalf("%s: error %d, want %d", b.done, got, want)
	}
}

func (b *both) work(t *testing.T, at, pieces int) {
	t.Helper()
	b.same(t, fmt.Sprint(" work ", at, pieces), b.net.Work(at, pieces), b.diary.work(at, pieces))
}

func (b *both) send(t *testing.T, from, to, pieces int) {
	t.Helper()
	b.same(t, fmt.Sprint(" send ", from, to, pieces), b.net.Send(from, to, pieces), b.diary.send(from, to, pieces))
}

func (b *both) receive(t *testing.T, from, to int) {
	t.Helper()
	b.same(t, fmt.Sprint(" receive ", from, to), b.net.Receive(from, to), b.diary.receive(from, to))
}

func (b *both) start(t *testing.T, at int) {
	t.Helper()
	no, e := b.net.Start(at)
	want, f := b.diary.start(at)
	b.same(t, fmt.Sprint(" start ", at), e, f)
	if no != want {
		t.Fatalf("%s: number %d, want %d", b.done, no, want)
	}
}

// look wants the net to show what is in the diary.
func (b *both) look(t *testing.T) {
	t.Helper()
	if got, want := look(b.net, b.diary.snapshots), b.diary.text(); got != want {
		t.Fatalf("%s:\n%s, want\n%s", b.done, got, want)
	}
}

// step does something at random, now and then something that is an error.
func (b *both) step(t *testing.T, random *rand.Rand) {
	t.Helper()
	n := len(b.diary.pieces)
	one, other := random.Intn(n), random.Intn(n)
	switch random.Intn(20) {
	case 0:
		b.start(t, one)
	case 1, 2:
		b.work(t, one, random.Intn(4))
	case 3, 4, 5, 6, 7, 8:
		b.send(t, one, other, random.Intn(4))
	case 9:
		b.receive(t, one-1, other+1)
	default:
		b.receive(t, one, other)
	}
}

// drain receives all messages in any order.
func (b *both) drain(t *testing.T, random *rand.Rand) {
	t.Helper()
	for len(b.diary.letters) > 0 {
		l := b.diary.letters[random.Intn(len(b.diary.letters))]
		b.receive(t, l.from, l.to)
	}
}

// walk is a net in which so many steps were done.
func walk(t *testing.T, random *rand.Rand, n, steps int) *both {
	t.Helper()
	pieces := make([]int, n)
	for i := range pieces {
		pieces[i] = random.Intn(6)
	}
	b := newBoth(t, pieces...)
	for range steps {
		b.step(t, random)
	}
	return b
}

// made, sent and got make events.
func made(at int) api.Event       { return api.Event{Station: at, What: api.EventWork, Other: at} }
func sent(from, to int) api.Event { return api.Event{Station: from, What: api.EventSend, Other: to} }
func got(from, to int) api.Event  { return api.Event{Station: to, What: api.EventReceive, Other: from} }
func chain(at, n int) []api.Event { return slices.Repeat([]api.Event{made(at)}, n) }
func chains(n ...int) []api.Event {
	var list []api.Event
	for at, length := range n {
		list = append(list, chain(at, length)...)
	}
	return list
}

// someEvents are so many events of n stations at random, with channels from stations to themselves, and with pieces and
// clocks that say nothing.
func someEvents(random *rand.Rand, n, many int) []api.Event {
	var list []api.Event
	left := map[[2]int]int{}
	for len(list) < many {
		one, other := random.Intn(n), random.Intn(n)
		e := api.Event{Station: one, Other: other, What: 1 + random.Intn(3), Pieces: random.Int() - random.Int()}
		switch e.What {
		case api.EventSend:
			left[[2]int{one, other}]++
		case api.EventReceive:
			if left[[2]int{other, one}] == 0 {
				continue
			}
			left[[2]int{other, one}]--
		}
		for range random.Intn(7) {
			e.Clock = append(e.Clock, random.Intn(9)-4)
		}
		list = append(list, e)
	}
	return list
}

// senders has, for each event that receives a parcel, the number of the one that sent it, and -1 for others.
func senders(events []api.Event) []int {
	list := make([]int, len(events))
	taken := map[int]bool{}
	for i, e := range events {
		list[i] = -1
		if e.What != api.EventReceive {
			continue
		}
		for j, s := range events[:i] {
			if s.What == api.EventSend && s.Station == e.Other && s.Other == e.Station && !taken[j] {
				list[i], taken[j] = j, true
				break
			}
		}
	}
	return list
}

// places has the place of each event at its station, from 1 on.
func places(events []api.Event) []int {
	count := map[int]int{}
	var list []int
	for _, e := range events {
		count[e.Station]++
		list = append(list, count[e.Station])
	}
	return list
}

// lengths is how many events each of n stations has.
func lengths(n int, events []api.Event) []int {
	list := make([]int, n)
	for _, e := range events {
		list[e.Station]++
	}
	return list
}

// isConsistent is what Consistent is to say of a cut with n numbers.
func isConsistent(n int, events []api.Event, cut []int) bool {
	for at, length := range lengths(n, events) {
		if cut[at] < 0 || cut[at] > length {
			return false
		}
	}
	place := places(events)
	within := func(i int) bool { return place[i] <= cut[events[i].Station] }
	for i, sender := range senders(events) {
		if sender >= 0 && within(i) && !within(sender) {
			return false
		}
	}
	return true
}

// causes tells, for each two events, whether the first one could have caused the second one.
func causes(events []api.Event) [][]bool {
	from := senders(events)
	before := make([][]bool, len(events))
	for i := range events {
		before[i] = make([]bool, len(events))
	}
	for i, e := range events {
		for j := range events[:i] {
			if events[j].Station == e.Station || from[i] == j {
				before[j][i] = true
				for k := range events[:j] {
					before[k][i] = before[k][i] || before[k][j]
				}
			}
		}
	}
	return before
}

// everyCut lists all cuts with counts from least to the number of events and more beyond it.
func everyCut(n int, events []api.Event, least, more int) [][]int {
	cuts := [][]int{nil}
	for _, length := range lengths(n, events) {
		var longer [][]int
		for _, c := range cuts {
			for count := least; count <= length+more; count++ {
				longer = append(longer, append(slices.Clone(c), count))
			}
		}
		cuts = longer
	}
	return cuts
}

// idealsOf lists all consistent cuts.
func idealsOf(n int, events []api.Event) [][]int {
	return slices.DeleteFunc(everyCut(n, events, 0, 0), func(c []int) bool { return !isConsistent(n, events, c) })
}

// ints are numbers inside and outside all limits.
func ints() []int {
	return []int{math.MinInt, math.MinInt + 1, -1 << 32, -9, -1, 0, 1, 2, 3, 4, 5, 6, 8, 9, 60, 400, 1000000, 1000001, 1 << 32, 1<<32 + 1, math.MaxInt - 1, math.MaxInt}
}
