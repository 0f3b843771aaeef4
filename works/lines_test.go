package works_test

// P10.2 (commands) and P10.3 (the table): what is a line, and the kinds of parameters. Run of the lines of the chapter's
// example.

import (
	"fmt"
	"slices"
	"strings"
	"testing"

	"encaustic/works"
)

func TestExample(t *testing.T) {
	w := works.New()
	play(t, w, `
		batch a 3 2          -> batch 1
		batch b 3 9          -> batch 2
		batch a 3 4          -> batch 3
		floor hall ####/#### -> 5
		tiling hall          -> 0,0r 2,0r 0,1r 2,1r
		need hall            -> 4 0 0 0
		lay hall 3           -> a3
		stock 3              -> 2 9 0 0
		flip hall 0 0        -> ! 9
		lift hall            -> 4
		flip hall 0 0        -> ok
		tiling hall          -> 0,0d 1,0d 2,0r 2,1r
		paint hall ab        -> pmm
		need hall            -> 3 1 0 0
		lay hall 3           -> a3 b2
		why #./.#            -> hall
		audit                -> good 9 3 15 11 4 1
	`)
}

func TestLinesWithoutWords(t *testing.T) {
	w := start(t, "batch a 1 1")
	before := show(w)
	for _, n := range []int{0, 1, 2, 199, 200, 201, 1000000} {
		wantReply(t, w, strings.Repeat(" ", n), "")
	}
	if after := show(w); after != before {
		t.Errorf("first\n%sand then\n%s", before, after)
	}
}

// TestBlanks: any number of them between words, before and after, and none of them comes into the book.
func TestBlanks(t *testing.T) {
	w := works.New()
	play(t, w, "batch a 3 2 -> batch 1")
	wantReply(t, w, "   batch a 3 2", "batch 2")
	wantReply(t, w, "batch a 3 2  ", "batch 3")
	wantReply(t, w, " batch    a  3   2 ", "batch 4")
	wantReply(t, w, "  audit ", "good 4 4 8 8 0 0")
	wantReply(t, w, " if   batch  a 3   7 ", "batch 5")
	wantReply(t, w, "batcha 3 2", "? line")
	wantReply(t, w, "batch a3 2", "? line")
	if book := w.Book(); !slices.Equal(book, repeated("batch a 3 2", 4)) {
		t.Errorf("%q", book)
	}
}

// TestLengthOfLines: blanks count.
func TestLengthOfLines(t *testing.T) {
	w := works.New()
	for _, line := range []string{"batch a 3 2", "audit", "if audit", "floors", "flip hall 0 0", "stock x", "batch a 10 1"} {
		want := w.Copy().Exec(line)
		for _, blanks := range []int{0, 1, 100, 199 - len(line), 200 - len(line), 201 - len(line), 1000} {
			reply := want
			if blanks+len(line) > 200 {
				reply = "? line"
			}
			gap := strings.Repeat(" ", blanks)
			wantReply(t, w.Copy(), line+gap, reply)
			wantReply(t, w.Copy(), gap+line, reply)
			if name, rest, ok := strings.Cut(line, " "); ok && blanks > 0 {
				wantReply(t, w.Copy(), name+gap+" "+rest, map[bool]string{true: want, false: "? line"}[blanks+len(line) <= 200])
			}
		}
	}
	wantReply(t, w, strings.Repeat("x", 200), "? line")
	wantReply(t, w, "stock "+strings.Repeat("1", 194), "? word 1")
	wantReply(t, w, "stock "+strings.Repeat("1", 195), "? line")
	wantReply(t, w, "need "+strings.Repeat("a", 195), "? word 1")
	wantReply(t, w, "need "+strings.Repeat("a", 196), "? line")
}

func TestBytesOfLines(t *testing.T) {
	w := works.New()
	for b := range 256 {
		text := string([]byte{byte(b)})
		word, none := "? word 1", "? line"
		if b < 32 || b > 126 {
			word = "? line"
		}
		if b == 32 {
			word, none = "0 0 0 0", ""
		}
		if b >= '0' && b <= '9' {
			word = "! 2"
		}
		wantReply(t, w, "stock 3"+text, word)
		wantReply(t, w, text, none)
		if b != 32 {
			wantReply(t, w, "stock"+text+"3", "? line")
			wantReply(t, w, text+"audit", "? line")
			wantReply(t, w, "audit "+text, "? line")
		}
		if b < 32 || b > 126 {
			wantReply(t, w, "audit"+text, "? line")
			wantReply(t, w, " "+text+" ", "? line")
			wantReply(t, w, "if audit"+text, "? line")
			wantReply(t, w, "batch e 3 "+text, "? line")
		}
	}
	wantReply(t, w, "stock \uff11", "? line")
	wantReply(t, w, "stock\u00a03", "? line")
	wantReply(t, w, "\u2003", "? line")
}

func TestNamesOfCommands(t *testing.T) {
	w := works.New()
	for _, name := range []string{"fly", "Batch", "AUDIT", "batc", "batches", "stocks", "floorss", "f", "?", "!", "#", "book", "read", "copy", "run", "1", "iff", "If", "new", "audit."} {
		for n := range 5 {
			line := name + strings.Repeat(" 1", n)
			wantReply(t, w, line, "? line")
			wantReply(t, w, "if "+line, "? line")
		}
	}
}

// goodWords are parameters of a kind.
var goodWords = map[byte][]string{
	'n': {"0", "1", "-1", "9", "10", "-10", "100", "1024", "1125899906842624", "-1125899906842624", "1125899906842623", "999999999999999"},
	'a': {"a", "z", "hall", "abcdefgh", "zzzzzzzz", "if", "batch", "audit"},
	's': {"a", "b", "c", "d"},
	'r': {"#", ".", "####/####", "########", "#/#/#/#/#/#/#/#", "#./.#", "########/########/########/########/########/########/########/########"},
	'p': {"a", "d", "ab/ba", "abcdab", "a/b/c/d/a/b", "abcdab/abcdab/abcdab/abcdab/abcdab/dddddd"},
}

// badWords are words that are of no kind, or of another one.
var badWords = map[byte][]string{
	'n': {"00", "01", "-0", "-01", "+1", "+0", "-", "--1", "1-", "1.0", "1e3", "0x10", "0b1", "1_000", "x", "a", "#", "1125899906842625", "-1125899906842625", "99999999999999999999", "-99999999999999999999", "9223372036854775807", "-9223372036854775808", "18446744073709551617", "4503599627370496"},
	'a': {"abcdefghi", "A", "Hall", "hallO", "a1", "1", "a-b", "a_b", "#", "a/b", "{", "`", "a.", "0", "-1"},
	's': {"e", "A", "`", "ab", "aa", "1", "-", "dd", "#"},
	'r': {"/", "#/", "/#", "##/#", "#/##", "#//#", "#########", "#/#/#/#/#/#/#/#/#", "#x", "a", "0", "#/x", "##,##", "#\\#", "-", strings.Repeat("#", 100)},
	'p': {"/", "a/", "/a", "ab/a", "a/ab", "a//a", "abcdabc", "a/a/a/a/a/a/a", "e", "A", "ae", "a/e", "1", "#", "a,b", "`", strings.Repeat("a", 100)},
}

func TestKindsOfWords(t *testing.T) {
	for name, kinds := range kindsOf {
		for i := range kinds {
			for _, word := range goodWords[kinds[i]] {
				if reply := works.New().Exec(withWord(name, kinds, i, word)); strings.HasPrefix(reply, "?") {
					t.Errorf("%q: %q", withWord(name, kinds, i, word), reply)
				}
			}
			for _, word := range badWords[kinds[i]] {
				wantReply(t, works.New(), withWord(name, kinds, i, word), fmt.Sprint("? word ", i+1))
				wantReply(t, works.New(), "if "+withWord(name, kinds, i, word), fmt.Sprint("? word ", i+1))
			}
		}
	}
}

// withWord is a line with a certain word as a parameter, and ordinary words as the others.
func withWord(name, kinds string, at int, word string) string {
	line := name
	for i := range kinds {
		if i == at {
			line += " " + word
		} else {
			line += " " + goodWords[kinds[i]][1]
		}
	}
	return line
}

// TestFirstBadWord has all words bad from one on.
func TestFirstBadWord(t *testing.T) {
	for name, kinds := range kindsOf {
		for first := range kinds {
			line := name
			for i := range kinds {
				if i < first {
					line += " " + goodWords[kinds[i]][0]
				} else {
					line += " " + badWords[kinds[i]][0]
				}
			}
			wantReply(t, works.New(), line, fmt.Sprint("? word ", first+1))
		}
	}
}

// TestNumbersOfWords: one word less or more is a bad line, whatever the words are.
func TestNumbersOfWords(t *testing.T) {
	for name, kinds := range kindsOf {
		for n := range 7 {
			good, bad := name, name
			for i := range n {
				k := byte('n')
				if i < len(kinds) {
					k = kinds[i]
				}
				good += " " + goodWords[k][0]
				bad += " " + badWords[k][0]
			}
			reply := works.New().Exec(good)
			if (reply == "? line") != (n != len(kinds)) || strings.HasPrefix(reply, "? word") {
				t.Errorf("%q: %q", good, reply)
			}
			if n != len(kinds) {
				wantReply(t, works.New(), bad, "? line")
			}
		}
	}
}

// TestWordsComeBeforeRefusals: a bad word decides even if the command would be refused for a word before it.
func TestWordsComeBeforeRefusals(t *testing.T) {
	w := start(t, "floor hall ##", "batch a 1 1")
	play(t, w, `
		floor hall #x     -> ? word 2
		floor hall ##     -> ! 7
		draw none 1.5     -> ? word 2
		draw none 1       -> ! 6
		draw none -1      -> ! 6
		flip none 0 x     -> ? word 3
		flip none 0 0     -> ! 6
		paint none e      -> ? word 2
		paint none a      -> ! 6
		lay none x        -> ? word 2
		lay none 10       -> ! 6
		lay none 1        -> ! 6
		lift none         -> ! 6
		batch a 10 x      -> ? word 3
		batch a 10 1      -> ! 2
		box 9 9 x         -> ? word 3
		box 9 9 9         -> ! 2
		cut 0 x           -> ? word 2
		cut 0 0           -> ! 2
		lay hall 1        -> a1
		draw hall x       -> ? word 2
		draw hall -1      -> ! 9
		paint hall x      -> ? word 2
		paint hall a      -> ! 9
	`)
}

// TestRandomLines compares works with their ledger, line by line, and all that they show now and then.
func TestRandomLines(t *testing.T) {
	for seed := range 150 {
		random := newRandom(seed)
		w, l := newBoth()
		for i := range 150 {
			step(t, w, l, someLine(random))
			if i%25 == 24 {
				wantSame(t, w, l)
			}
		}
	}
}
