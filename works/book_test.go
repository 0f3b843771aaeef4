package works_test

// P10.9 (what if, the book, Audit), P10.13 (the book read again), P10.14 (what is refused, and what if).

import (
	"fmt"
	"slices"
	"strings"
	"testing"

	"encaustic/api"
	"encaustic/works"
)

func TestIf(t *testing.T) {
	w := start(t, "batch a 1 4", "floor hall ####/####")
	before := show(w)
	play(t, w, `
		if                      -> ? line
		if if                   -> ? line
		if fly                  -> ? line
		if batch a 1            -> ? line
		if batch e 1 1          -> ? word 1
		if batch a 1 x          -> ? word 3
		if batch a 1 0          -> ! 2
		if batch a 1 1          -> batch 2
		if batch a 1 1          -> batch 2
		if if batch a 1 1       -> batch 2
		if if if fly            -> ? line
		if floor x ##           -> 1
		if floor hall ##        -> ! 7
		if draw hall 0          -> 3
		if flip hall 0 0        -> ok
		if paint hall ab/ba     -> p4m
		if lay hall 1           -> a1
		if lay hall 2           -> ! 10
		if lift hall            -> ! 9
		if why ##/##            -> tiles 2
		if tiling hall          -> 0,0r 2,0r 0,1r 2,1r
		if need hall            -> 4 0 0 0
		if stock 1              -> 4 0 0 0
		if box 1 1 1            -> 2
		if cut 5 3              -> 3 2 1 1
		if match hall           -> 0
		if floors               -> hall
		if audit                -> good 2 1 4 4 0 1
		if tiling x             -> ! 6
	`)
	if after := show(w); after != before {
		t.Errorf("first\n%sand then\n%s", before, after)
	}
	play(t, w, `
		lay hall 1     -> a1
		if lift hall   -> 4
		if lift hall   -> 4
		stock 1        -> 0 0 0 0
		if audit       -> good 3 1 4 0 4 1
	`)
	wantReply(t, w, strings.Repeat("if ", 64)+"audit", "good 3 1 4 0 4 1")
	wantReply(t, w, strings.Repeat("if ", 66), "? line")
}

// TestBook: only commands that change works, and are not refused, are in it, with one blank between their words.
func TestBook(t *testing.T) {
	w := works.New()
	for _, line := range []string{
		"batch a 1 4", " batch  b 2    7 ", "batch a 10 1", "batch e 1 1", "fly", "", "   ", "if batch a 1 1", "floor hall   ####/####", "floor hall ##",
		"why ##", "tiling hall", "need hall", "stock 1", "box 1 1 1", "cut 5 3", "match hall", "floors", "audit",
		"  draw hall 5", "draw hall -1", "draw hall 0", "flip hall 2 0", "flip hall 9 9", "paint hall aa/aa  ", "paint hall e", "lay hall 1", "lay hall 1", "paint hall a", "lift hall", "lift hall",
	} {
		w.Exec(line)
	}
	want := []string{"batch a 1 4", "batch b 2 7", "floor hall ####/####", "draw hall 5", "draw hall 0", "flip hall 2 0", "paint hall aa/aa", "lay hall 1", "lift hall"}
	if book := w.Book(); !slices.Equal(book, want) {
		t.Errorf("%q", book)
	}
	if a := w.Audit(); a.Commands != len(want) {
		t.Error(a)
	}
}

// TestLimitOfBook: with 2000 commands, whatever else is wrong comes first.
func TestLimitOfBook(t *testing.T) {
	lines := append([]string{"floor hall ##/##", "floor ring ###/#.#/###", "floor laid .", "lay laid 1", "batch a 1 2"}, repeated("flip hall 0 0", 1994)...)
	w := start(t, lines...)
	play(t, w, `
		if paint hall b  -> p4m
		paint hall aa    -> p4m
		audit            -> good 2000 1 2 2 0 3
	`)
	before := show(w)
	play(t, w, `
		batch a 1 1      -> ! 8
		batch a 0 1      -> ! 2
		floor x ##       -> ! 8
		floor x #        -> ! 10
		floor hall ##    -> ! 7
		draw hall 1      -> ! 8
		draw hall -1     -> ! 2
		draw x 1         -> ! 6
		draw laid 1      -> ! 9
		flip hall 0 0    -> ! 8
		flip hall 1 1    -> ! 6
		flip ring 0 0    -> ! 9
		paint hall b     -> ! 8
		paint laid b     -> ! 9
		lay hall 1       -> ! 8
		lay hall 2       -> ! 10
		lay hall 10      -> ! 2
		lay ring 1       -> ! 10
		lift laid        -> ! 8
		lift hall        -> ! 9
		lift x           -> ! 6
		if flip hall 0 0 -> ! 8
		if batch a 1 1   -> ! 8
		if flip hall 1 1 -> ! 6
		flip hall 0 x    -> ? word 3
		tiling hall      -> 0,0r 0,1r
		stock 1          -> 2 0 0 0
		why ##/##        -> tiles 2
	`)
	wantReply(t, w.Copy(), "batch a 1 1", "! 8")
	if after := show(w); after != before {
		t.Errorf("first\n%sand then\n%s", before, after)
	}
	if _, n, e := works.Read(append(w.Book(), "batch a 1 1")); n != 2001 || e != api.ErrFull {
		t.Error(n, e)
	}
	if _, n, e := works.Read(append(w.Book(), "batch a 0 1")); n != 2001 || e != api.ErrArg {
		t.Error(n, e)
	}
	if _, n, e := works.Read(append(w.Book(), "audit")); n != 2001 || e != api.ErrForm {
		t.Error(n, e)
	}
}

func TestRead(t *testing.T) {
	for _, book := range [][]string{nil, {}} {
		w, n, e := works.Read(book)
		if w == nil || n != 0 || e != api.OK {
			t.Fatal(w, n, e)
		}
		wantSame(t, w, newLedger())
	}
	w, n, e := works.Read([]string{"  batch a   1 4 ", "floor f ##", "lay f 1"})
	if n != 0 || e != api.OK {
		t.Fatal(n, e)
	}
	if book := w.Book(); !slices.Equal(book, []string{"batch a 1 4", "floor f ##", "lay f 1"}) {
		t.Errorf("%q", book)
	}
	wantReply(t, w, "audit", "good 3 1 4 3 1 1")
}

func TestErrorsOfRead(t *testing.T) {
	first := []string{"batch a 1 4", "floor f ##/##", "floor g .", "lay g 1"}
	for line, want := range map[string]api.Errno{
		"": api.ErrForm, " ": api.ErrForm, strings.Repeat(" ", 300): api.ErrForm,
		"fly": api.ErrForm, "batch a 1": api.ErrForm, "batch e 1 1": api.ErrForm, "batch a 1 x": api.ErrForm, "batch a 1 1\n": api.ErrForm, "\tbatch a 1 1": api.ErrForm, "batch a 1 1" + strings.Repeat(" ", 200): api.ErrForm, "floor h #/##": api.ErrForm,
		"why ##": api.ErrForm, "tiling f": api.ErrForm, "need f": api.ErrForm, "stock 1": api.ErrForm, "box 1 1 1": api.ErrForm, "cut 5 3": api.ErrForm, "match f": api.ErrForm, "floors": api.ErrForm, "audit": api.ErrForm,
		"tiling x": api.ErrForm, "need x": api.ErrForm, "match x": api.ErrForm, "stock 0": api.ErrForm, "box 0 0 0": api.ErrForm, "cut 17 1": api.ErrForm, "why #": api.ErrForm,
		"if": api.ErrForm, "if if": api.ErrForm, "if batch a 1 1": api.ErrForm, "if batch a 0 1": api.ErrForm, "if audit": api.ErrForm, "if fly": api.ErrForm, " if if batch a 1 1": api.ErrForm,
		"batch a 0 1": api.ErrArg, "batch a 1 0": api.ErrArg, "floor f ##": api.ErrExists, "floor x #": api.ErrPlan, "draw x 1": api.ErrNone, "draw g 1": api.ErrState, "draw f -1": api.ErrArg,
		"flip f 1 1": api.ErrNone, "flip g 0 0": api.ErrState, "paint g a": api.ErrState, "lay f 2": api.ErrPlan, "lay f 10": api.ErrArg, "lift f": api.ErrState, "lift x": api.ErrNone,
	} {
		book := append(slices.Clone(first), line, "batch a 1 1", "fly")
		if w, no, e := works.Read(book); w != nil || no != 5 || e != want {
			t.Errorf("%q: %v, %d, %d, want 5, %d", book, w, no, e, want)
		}
		if want == api.ErrForm {
			if w, no, e := works.Read(book[4:]); w != nil || no != 1 || e != want {
				t.Errorf("%q: %v, %d, %d, want 1, %d", book[4:], w, no, e, want)
			}
		}
	}
	if w, no, e := works.Read(append(repeated("batch a 1 1", 60), "batch a 1 1")); w != nil || no != 61 || e != api.ErrFull {
		t.Error(w, no, e)
	}
}

func TestRun(t *testing.T) {
	w := works.New()
	for _, c := range [][2]string{
		{"", ""},
		{"\n", ""},
		{"\n\n  \n", ""},
		{"   ", ""},
		{strings.Repeat(" ", 300), ""},
		{"audit", "good 0 0 0 0 0 0\n"},
		{"audit\n", "good 0 0 0 0 0 0\n"},
		{"audit\n\n", "good 0 0 0 0 0 0\n"},
		{"\n\naudit\n   \nfly\n", "good 0 0 0 0 0 0\n? line\n"},
		{"floors\nfloors", "\n\n"},
		{"if floors\n", "\n"},
		{"audit\r\n", "? line\n"},
		{"\r\n", "? line\n"},
		{"batch a 1 1\nif batch a 1 1\nbatch a 10 1\nbatch x 1 1\nstock 1", "batch 1\nbatch 2\n! 2\n? word 1\n1 0 0 0\n"},
		{"floor none .\ntiling none\n" + strings.Repeat("x", 201) + "\naudit" + strings.Repeat(" ", 196), "1\n\n? line\n? line\n"},
	} {
		if got := w.Run(c[0]); got != c[1] {
			t.Errorf("%q: %q, want %q", c[0], got, c[1])
		}
	}
	if n := len(w.Book()); n != 2 {
		t.Errorf("%q", w.Book())
	}
}

// TestRunIsExec: line by line.
func TestRunIsExec(t *testing.T) {
	for seed := range 30 {
		random := newRandom(seed)
		w, other := works.New(), works.New()
		text, want := "", ""
		for range 60 {
			line := someLine(random)
			if random.Intn(9) == 0 {
				line = strings.Repeat(" ", random.Intn(3))
			}
			text += line + "\n"
			if reply := other.Exec(line); strings.Trim(line, " ") != "" {
				want += reply + "\n"
			}
		}
		if got := w.Run(strings.TrimSuffix(text, "\n")); got != want {
			t.Errorf("%q: %q, want %q", text, got, want)
		}
		if got := w.Run(text); got != other.Run(text) || show(w) != show(other) {
			t.Errorf("%q, again: %q", text, got)
		}
	}
}

// TestReadAgain: works that are read from a book show the same, and reply the same to whatever comes.
func TestReadAgain(t *testing.T) {
	for seed := range 60 {
		random := newRandom(1000 + seed)
		w, l := walk(t, random, 100)
		again := start(t, w.Book()...)
		if got, want := show(again), show(w); got != want {
			t.Fatalf("%q: read again\n%s, want\n%s", w.Book(), got, want)
		}
		for range 60 {
			line := someLine(random)
			reply := step(t, w, l, line)
			wantReply(t, again, line, reply)
		}
		if got, want := show(again), show(w); got != want {
			t.Fatalf("%q: later\n%s, want\n%s", w.Book(), got, want)
		}
	}
}

// TestWhatChangesNothing: lines with a bad reply, lines that look, and lines with `if`; these reply what comes then.
func TestWhatChangesNothing(t *testing.T) {
	kept, changed := 0, 0
	for seed := range 60 {
		random := newRandom(2000 + seed)
		w, _ := walk(t, random, 40)
		for range 60 {
			line := someLine(random)
			before := show(w)
			trial := w.Exec("if " + line)
			if after := show(w); after != before {
				t.Fatalf("if %q: first\n%sand then\n%s", line, before, after)
			}
			reply := w.Exec(line)
			if len(line) < 198 && strings.Trim(line, " ") != "" && trial != reply {
				t.Fatalf("if %q: %q, and then %q", line, trial, reply)
			}
			words := append(strings.Fields(line), "")
			if reply != "" && (reply[0] == '?' || reply[0] == '!') || !slices.Contains(changing, words[0]) {
				kept++
				if after := show(w); after != before {
					t.Fatalf("%q: first\n%sand then\n%s", line, before, after)
				}
			} else {
				changed++
				if book := w.Book(); book[len(book)-1] != strings.Join(strings.Fields(line), " ") {
					t.Fatalf("%q is not at the end of %q", line, book)
				}
			}
		}
	}
	if min(kept, changed) < 400 {
		t.Errorf("%d lines changed nothing, %d did: that tests little", kept, changed)
	}
}

// TestAudit has all its numbers differ.
func TestAudit(t *testing.T) {
	w := start(t, "batch a 1 40", "batch b 1 5", "batch c 2 6", "floor f ##/##", "floor g ########/########", "lay f 1", "lay g 1", "floor h .", "lay h 1", "lift f", "floor i ##")
	want := api.Audit{Commands: 11, Batches: 3, Tiles: 51, Left: 43, Laid: 8, Floors: 4, Good: true}
	if a := w.Audit(); a != want {
		t.Error(a)
	}
	wantReply(t, w, "audit", "good 11 3 51 43 8 4")
	if text := fmt.Sprint(w.Audit()); text != "{11 3 51 43 8 4 true}" {
		t.Error(text)
	}
}
