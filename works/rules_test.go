package works_test

// ErrNil (of works that no function has returned), P1 (no panic, for all arguments), P2 (a result depends only on the
// arguments and the calls before), and the rule about memory, copies of works among them.

import (
	"fmt"
	"math"
	"runtime"
	"slices"
	"strings"
	"sync"
	"testing"

	"encaustic/api"
	"encaustic/works"
)

func TestNoWorks(t *testing.T) {
	for _, w := range []*works.Works{nil, {}, new(works.Works)} {
		for _, line := range []string{"", "audit", "batch a 1 1", "fly", "if audit", "floors", "audit\nfly\n", strings.Repeat("x", 300), "\x00"} {
			if reply, replies := w.Exec(line), w.Run(line); reply != "" || replies != "" {
				t.Errorf("%q: %q, %q", line, reply, replies)
			}
		}
		if book, a := w.Book(), w.Audit(); len(book) != 0 || a != (api.Audit{}) {
			t.Errorf("%q, %v", book, a)
		}
		if c := w.Copy(); c != nil {
			t.Error(c)
		}
		for _, no := range []int{math.MinInt, -1, 0, 1, math.MaxInt} {
			if b, e := w.Batch(no); b != (api.Batch{}) || e != api.ErrNil {
				t.Error(b, e)
			}
		}
		for _, name := range []string{"", "hall", "?"} {
			if r, e := w.Floor(name); len(r) != 0 || e != api.ErrNil {
				t.Error(r, e)
			}
		}
	}
}

// TestNoLinePanics tries bytes of all kinds, and words in all places.
func TestNoLinePanics(t *testing.T) {
	random := newRandom(1)
	w := start(t, "batch a 1 9", "floor hall ####/####", "paint hall ab")
	words := []string{"batch", "floor", "draw", "flip", "paint", "lay", "lift", "why", "tiling", "need", "stock", "box", "cut", "match", "floors", "audit", "if", "hall", "a", "1", "0", "-1", "#", "##/##", ".", "/", "ab/ba", "", "\x00", "\xff", "1125899906842624", "-1125899906842624"}
	for range 20000 {
		line := ""
		for range random.Intn(6) {
			line += words[random.Intn(len(words))] + " "
		}
		w.Exec(line)
		noise := make([]byte, random.Intn(12))
		random.Read(noise)
		w.Exec(string(noise))
		w.Run(line + "\n" + string(noise) + "\n" + line)
		works.Read([]string{line, string(noise)})
	}
	for _, line := range []string{strings.Repeat("if ", 1000000), strings.Repeat("#", 1000000), "why " + strings.Repeat("#/", 98), "paint hall " + strings.Repeat("/", 189)} {
		w.Exec(line)
		w.Run(line)
		works.Read([]string{line})
	}
	for _, no := range []int{math.MinInt, -1, 0, 1, 2, math.MaxInt} {
		w.Batch(no)
	}
	if !w.Audit().Good {
		t.Error(w.Audit())
	}
}

// session is what works show after random lines, and all their replies.
func session(seed int) string {
	random := newRandom(seed)
	w := works.New()
	text := ""
	for range 80 {
		text += w.Exec(someLine(random)) + "\n"
	}
	return text + show(w) + show(w)
}

// TestResultsDependOnCalls does the same again, backwards, and in several goroutines with works each.
func TestResultsDependOnCalls(t *testing.T) {
	var first []string
	for seed := range 12 {
		first = append(first, session(seed))
	}
	old := runtime.GOMAXPROCS(1)
	for seed := 11; seed >= 0; seed-- {
		if again := session(seed); again != first[seed] {
			t.Errorf("first\n%sand then\n%s", first[seed], again)
		}
	}
	runtime.GOMAXPROCS(old)
	again := make([]string, len(first))
	var group sync.WaitGroup
	for seed := range first {
		group.Go(func() { again[seed] = session(seed) })
	}
	group.Wait()
	for seed := range first {
		if again[seed] != first[seed] {
			t.Errorf("first\n%sand in a goroutine\n%s", first[seed], again[seed])
		}
	}
}

// TestCopies: what is done with one of two works changes nothing in the other one.
func TestCopies(t *testing.T) {
	for seed := range 60 {
		random := newRandom(3000 + seed)
		w, l := walk(t, random, random.Intn(120))
		type pair struct {
			w *works.Works
			l *ledger
		}
		all := []pair{{w, l}}
		for range 4 {
			from := all[random.Intn(len(all))]
			all = append(all, pair{from.w.Copy(), from.l.copied()})
			for range 40 {
				p := all[random.Intn(len(all))]
				step(t, p.w, p.l, someLine(random))
			}
			for _, p := range all {
				wantSame(t, p.w, p.l)
			}
		}
	}
}

// TestBooksOfCopiesStayApart: the same place of each book has a command of its own, with any number of commands before.
func TestBooksOfCopiesStayApart(t *testing.T) {
	for n := range 40 {
		w := start(t, repeated("batch a 1 1", n)...)
		first, second := w.Copy(), w.Copy()
		third := first.Copy()
		for i, c := range []*works.Works{first, w, third, second} {
			c.Exec(fmt.Sprint("batch b ", i+1, " 1"))
		}
		w.Exec("if batch d 9 9")
		for i, c := range []*works.Works{first, w, third, second} {
			want := append(repeated("batch a 1 1", n), fmt.Sprint("batch b ", i+1, " 1"))
			if book := c.Book(); !slices.Equal(book, want) {
				t.Errorf("%q, want %q", book, want)
			}
		}
	}
}

// TestCopiesAtOnce works with copies in goroutines: nothing that they share is written.
func TestCopiesAtOnce(t *testing.T) {
	w, l := walk(t, newRandom(77), 100)
	var group sync.WaitGroup
	got, want := make([]string, 8), make([]string, 8)
	for i := range got {
		c, d := w.Copy(), l.copied()
		group.Go(func() {
			random := newRandom(i)
			for range 100 {
				line := someLine(random)
				c.Exec(line)
				d.exec(line)
			}
			got[i], want[i] = show(c), d.show()
		})
	}
	group.Wait()
	for i := range got {
		if got[i] != want[i] {
			t.Errorf("%s, want\n%s", got[i], want[i])
		}
	}
	wantSame(t, w, l)
}

// spoil overwrites a list and the room behind it.
func spoil(list []string) {
	list = list[:cap(list)]
	for i := range list {
		list[i] = "spoiled"
	}
}

func TestResultsAreNewMemory(t *testing.T) {
	for seed := range 30 {
		random := newRandom(4000 + seed)
		w, l := walk(t, random, 80)
		c := w.Copy()
		for _, x := range []*works.Works{w, c} {
			spoil(x.Book())
			for name := range l.halls {
				r, _ := x.Floor(name)
				spoil(r)
			}
		}
		wantSame(t, w, l)
		wantSame(t, c, l)
		for range 20 {
			step(t, w, l, someLine(random))
		}
		spoil(w.Book())
		wantSame(t, w, l)
	}
}

// TestResultsStay: what is done later changes no result.
func TestResultsStay(t *testing.T) {
	w := start(t, "floor f ##/##", "batch a 1 9")
	book, b, a := w.Book(), first(t, w), w.Audit()
	r, _ := w.Floor("f")
	given := fmt.Sprint(book, b, a, r)
	w.Run("lay f 1\nbatch a 1 1\nfloor a ##\nfloor g ##\nlift f\npaint f b\nflip f 0 0\n")
	if now := fmt.Sprint(book, b, a, r); now != given {
		t.Errorf("%s has become %s", given, now)
	}
}

// first is the first batch.
func first(t *testing.T, w *works.Works) api.Batch {
	t.Helper()
	b, e := w.Batch(1)
	if e != api.OK {
		t.Fatal(e)
	}
	return b
}

// TestBooksThatAreReadStay, and are not kept.
func TestBooksThatAreReadStay(t *testing.T) {
	lines := []string{" batch a 1  9", "floor f ##/##", "lay f 1", "behind"}
	given := slices.Clone(lines)
	w, n, e := works.Read(lines[:3])
	if e != api.OK {
		t.Fatal(n, e)
	}
	want := show(w)
	if !slices.Equal(lines, given) {
		t.Errorf("%q has become %q", given, lines)
	}
	spoil(lines)
	if after := show(w); after != want {
		t.Errorf("first\n%sand then\n%s", want, after)
	}
	lines = w.Book()
	again := start(t, lines...)
	again.Exec("lift f")
	spoil(lines)
	wantReply(t, again, "audit", "good 4 1 9 9 0 1")
}
