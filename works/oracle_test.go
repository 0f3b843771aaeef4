package works_test

// What the other tests share: a ledger, which is slow works that read lines by regular expressions and try all sets of
// batches; random lines; and ways to play lines and to write down everything that works show.

import (
	"fmt"
	"maps"
	"math/rand"
	"regexp"
	"slices"
	"strconv"
	"strings"
	"testing"

	"encaustic/api"
	"encaustic/domino"
	"encaustic/height"
	"encaustic/lozenge"
	"encaustic/pattern"
	"encaustic/sample"
	"encaustic/square"
	"encaustic/works"
)

// hall is a floor of a ledger; from has the tiles that were taken from each batch.
type hall struct {
	region, pattern []string
	plan            []api.Domino
	laid            bool
	from            map[int]int
}

type ledger struct {
	lines   []string
	batches []api.Batch
	halls   map[string]*hall
}

func newLedger() *ledger { return &ledger{halls: map[string]*hall{}} }

func (l *ledger) copied() *ledger {
	c := &ledger{slices.Clone(l.lines), slices.Clone(l.batches), map[string]*hall{}}
	for name, h := range l.halls {
		own := *h
		own.from = maps.Clone(h.from)
		c.halls[name] = &own
	}
	return c
}

// kindsOf are the kinds of the parameters of a command: name, shade, region, pattern or number.
var kindsOf = map[string]string{
	"batch": "snn", "floor": "ar", "draw": "an", "flip": "ann", "paint": "ap", "lay": "an", "lift": "a",
	"why": "r", "tiling": "a", "need": "a", "stock": "n", "box": "nnn", "cut": "nn", "match": "a", "floors": "", "audit": "",
}

// changing are the commands that change works.
var changing = []string{"batch", "floor", "draw", "flip", "paint", "lay", "lift"}

var forms = map[byte]*regexp.Regexp{
	'a': regexp.MustCompile(`^[a-z]{1,8}$`),
	's': regexp.MustCompile(`^[a-d]$`),
	'r': regexp.MustCompile(`^[#.]{1,8}(/[#.]{1,8}){0,7}$`),
	'p': regexp.MustCompile(`^[a-d]{1,6}(/[a-d]{1,6}){0,5}$`),
	'n': regexp.MustCompile(`^(0|-?[1-9][0-9]{0,15})$`),
}

// isOf tells whether a word is of a kind.
func isOf(kind byte, word string) bool {
	if !forms[kind].MatchString(word) {
		return false
	}
	switch kind {
	case 'n':
		n, _ := strconv.ParseInt(word, 10, 64)
		return n <= 1125899906842624 && n >= -1125899906842624
	case 'r', 'p':
		rows := strings.Split(word, "/")
		return !slices.ContainsFunc(rows, func(row string) bool { return len(row) != len(rows[0]) })
	}
	return true
}

var unprintable = regexp.MustCompile(`[^ -~]`)

// exec is Exec, for a ledger.
func (l *ledger) exec(line string) string {
	words := strings.FieldsFunc(line, func(r rune) bool { return r == ' ' })
	if len(words) == 0 {
		return ""
	}
	if len(line) > 200 || unprintable.MatchString(line) {
		return "? line"
	}
	if words[0] == "if" {
		if len(words) == 1 {
			return "? line"
		}
		return l.copied().exec(strings.Join(words[1:], " "))
	}
	kinds, ok := kindsOf[words[0]]
	if !ok || len(kinds) != len(words)-1 {
		return "? line"
	}
	for i, word := range words[1:] {
		if !isOf(kinds[i], word) {
			return fmt.Sprint("? word ", i+1)
		}
	}
	if !slices.Contains(changing, words[0]) {
		reply, e := l.look(words)
		return answer(reply, e)
	}
	if _, e := l.copied().change(words); e != api.OK {
		return answer("", e)
	}
	if len(l.lines) == 2000 {
		return "! 8"
	}
	reply, _ := l.change(words)
	l.lines = append(l.lines, strings.Join(words, " "))
	return reply
}

func answer(reply string, e api.Errno) string {
	if e != api.OK {
		return fmt.Sprintf("! %d", e)
	}
	return reply
}

// free finds a floor that is not laid.
func (l *ledger) free(name string) (*hall, api.Errno) {
	h := l.halls[name]
	switch {
	case h == nil:
		return nil, api.ErrNone
	case h.laid:
		return nil, api.ErrState
	}
	return h, api.OK
}

func (l *ledger) change(words []string) (string, api.Errno) {
	var numbers [4]int
	for i, word := range words {
		numbers[i], _ = strconv.Atoi(word)
	}
	switch words[0] {
	case "batch":
		return l.batch(words[1][0], numbers[2], numbers[3])
	case "floor":
		return l.floor(words[1], strings.Split(words[2], "/"))
	case "lift":
		return l.lift(words[1])
	}
	h, e := l.free(words[1])
	if e != api.OK {
		return "", e
	}
	switch words[0] {
	case "lay":
		return l.lay(h, numbers[2])
	case "paint":
		h.pattern = strings.Split(words[2], "/")
		return pattern.Group(h.pattern)
	case "flip":
		h.plan, e = height.Flip(h.region, h.plan, numbers[2], numbers[3])
		return "ok", e
	}
	if numbers[2] < 0 {
		return "", api.ErrArg
	}
	h.plan, _ = sample.Draw(h.region, uint64(numbers[2]))
	index, e := sample.Index(h.region, h.plan)
	return fmt.Sprint(index), e
}

func (l *ledger) batch(shade byte, calibre, count int) (string, api.Errno) {
	if calibre < 1 || calibre > 9 || count < 1 || count > 1000 {
		return "", api.ErrArg
	}
	if len(l.batches) == 60 {
		return "", api.ErrFull
	}
	l.batches = append(l.batches, api.Batch{No: len(l.batches) + 1, Shade: shade, Calibre: calibre, Count: count, Left: count})
	return fmt.Sprint("batch ", len(l.batches)), api.OK
}

func (l *ledger) floor(name string, region []string) (string, api.Errno) {
	if l.halls[name] != nil {
		return "", api.ErrExists
	}
	plan, e := domino.Tile(region)
	if e == api.OK && len(l.halls) == 8 {
		e = api.ErrFull
	}
	if e != api.OK {
		return "", e
	}
	l.halls[name] = &hall{region: region, pattern: []string{"aaa", "aaa"}, plan: plan}
	count, _ := domino.Count(region)
	return fmt.Sprint(count), api.OK
}

func (l *ledger) lift(name string) (string, api.Errno) {
	h := l.halls[name]
	if h == nil {
		return "", api.ErrNone
	}
	if !h.laid {
		return "", api.ErrState
	}
	for no, n := range h.from {
		l.batches[no-1].Left += n
	}
	h.laid, h.from = false, nil
	return fmt.Sprint(len(h.plan)), api.OK
}

// lists calls f with the ascending lists of so many numbers of a list, the lexicographically least one first, until f is
// true of one.
func lists(numbers []int, size int, f func([]int) bool) bool {
	if size == 0 {
		return f(nil)
	}
	for i, n := range numbers {
		if lists(numbers[i+1:], size-1, func(rest []int) bool { return f(append([]int{n}, rest...)) }) {
			return true
		}
	}
	return false
}

// choose tries all lists of batches, the shorter ones first.
func (l *ledger) choose(shade byte, calibre, need int) []int {
	var numbers, best []int
	for _, b := range l.batches {
		if b.Shade == shade && b.Calibre == calibre {
			numbers = append(numbers, b.No)
		}
	}
	for size := range len(numbers) + 1 {
		if lists(numbers, size, func(list []int) bool { best = list; return l.left(list) >= need }) {
			return best
		}
	}
	return nil
}

// left is how many tiles these batches have left.
func (l *ledger) left(list []int) int {
	sum := 0
	for _, no := range list {
		sum += l.batches[no-1].Left
	}
	return sum
}

func (l *ledger) lay(h *hall, calibre int) (string, api.Errno) {
	if calibre < 1 || calibre > 9 {
		return "", api.ErrArg
	}
	h.laid, h.from = true, map[int]int{}
	var reply []string
	for _, shade := range []byte("abcd") {
		need := h.count(shade)
		if need == 0 {
			continue
		}
		list := l.choose(shade, calibre, need)
		if list == nil {
			return "", api.ErrPlan
		}
		for _, no := range list {
			n := min(need, l.batches[no-1].Left)
			h.from[no] = n
			l.batches[no-1].Left -= n
			need -= n
		}
		reply = append(reply, string(shade)+strings.ReplaceAll(strings.Trim(fmt.Sprint(list), "[]"), " ", ","))
	}
	if reply == nil {
		return "-", api.OK
	}
	return strings.Join(reply, " "), api.OK
}

// shadeAt is the shade of a pattern at a cell.
func (h *hall) shadeAt(x, y int) byte {
	wide := strings.Repeat(h.pattern[y%len(h.pattern)], 8)
	return wide[x]
}

func (h *hall) count(shade byte) int {
	n := 0
	for _, d := range h.plan {
		if h.shadeAt(d.X, d.Y) == shade {
			n++
		}
	}
	return n
}

// match goes round each domino by its cells, on a map of the dominoes that cover them.
func (h *hall) match() int {
	at := map[api.Cell]int{}
	for i, d := range h.plan {
		at[api.Cell{X: d.X, Y: d.Y}] = i + 1
		if d.Down {
			at[api.Cell{X: d.X, Y: d.Y + 1}] = i + 1
		} else {
			at[api.Cell{X: d.X + 1, Y: d.Y}] = i + 1
		}
	}
	meets := map[int]bool{}
	for c, i := range at {
		for _, next := range []api.Cell{{X: c.X + 1, Y: c.Y}, {X: c.X, Y: c.Y + 1}} {
			j := at[next]
			if j == 0 || j == i {
				continue
			}
			if a, b := h.plan[i-1], h.plan[j-1]; h.shadeAt(a.X, a.Y) == h.shadeAt(b.X, b.Y) {
				meets[i], meets[j] = true, true
			}
		}
	}
	return len(h.plan) - len(meets)
}

func (l *ledger) look(words []string) (string, api.Errno) {
	var numbers []int
	for _, word := range words[1:] {
		n, _ := strconv.Atoi(word)
		numbers = append(numbers, n)
	}
	switch words[0] {
	case "floors":
		return strings.Join(slices.Sorted(maps.Keys(l.halls)), " "), api.OK
	case "audit":
		a := l.audit()
		return fmt.Sprint("good ", a.Commands, " ", a.Batches, " ", a.Tiles, " ", a.Left, " ", a.Laid, " ", a.Floors), api.OK
	case "stock":
		return l.stock(numbers[0])
	case "box":
		n, e := lozenge.Count(api.Box{A: numbers[0], B: numbers[1], C: numbers[2]})
		return fmt.Sprint(n), e
	case "cut":
		squares, e := square.Cut(numbers[0], numbers[1])
		text := ""
		for _, s := range squares {
			text += fmt.Sprint(s.Side, " ")
		}
		return strings.TrimSuffix(text, " "), e
	case "why":
		n, _ := domino.Kasteleyn(strings.Split(words[1], "/"))
		if _, e := domino.Refute(strings.Split(words[1], "/")); e == api.OK {
			return "hall", api.OK
		} else if holes, _ := domino.Holes(strings.Split(words[1], "/")); holes > 0 {
			n, _ = domino.Count(strings.Split(words[1], "/"))
		}
		return fmt.Sprint("tiles ", max(n, -n)), api.OK
	}
	h := l.halls[words[1]]
	if h == nil {
		return "", api.ErrNone
	}
	switch words[0] {
	case "match":
		return fmt.Sprint(h.match()), api.OK
	case "need":
		return fmt.Sprintf("%d %d %d %d", h.count('a'), h.count('b'), h.count('c'), h.count('d')), api.OK
	}
	text := ""
	for _, d := range h.plan {
		text += fmt.Sprintf(" %d,%d%c", d.X, d.Y, map[bool]byte{false: 'r', true: 'd'}[d.Down])
	}
	return strings.TrimPrefix(text, " "), api.OK
}

func (l *ledger) stock(calibre int) (string, api.Errno) {
	if calibre < 1 || calibre > 9 {
		return "", api.ErrArg
	}
	left := map[byte]int{}
	for _, b := range l.batches {
		if b.Calibre == calibre {
			left[b.Shade] += b.Left
		}
	}
	return fmt.Sprintf("%d %d %d %d", left['a'], left['b'], left['c'], left['d']), api.OK
}

func (l *ledger) audit() api.Audit {
	a := api.Audit{Commands: len(l.lines), Batches: len(l.batches), Floors: len(l.halls)}
	for _, b := range l.batches {
		a.Tiles += b.Count
	}
	for _, h := range l.halls {
		if h.laid {
			a.Laid += len(h.plan)
		}
	}
	a.Left = a.Tiles - a.Laid
	a.Good = true
	return a
}

// write writes down all that works show of themselves; exec, batch and floor look at them.
func write(book []string, a api.Audit, exec func(string) string, batch func(int) (api.Batch, api.Errno), floor func(string) ([]string, api.Errno)) string {
	text := fmt.Sprintf("%q\n%+v\n", book, a)
	for _, line := range []string{"audit", "floors"} {
		text += exec(line) + "\n"
	}
	for calibre := 1; calibre <= 9; calibre++ {
		text += exec(fmt.Sprint("stock ", calibre)) + "\n"
	}
	for no := 0; no <= a.Batches+1; no++ {
		b, e := batch(no)
		text += fmt.Sprintf("%+v %d\n", b, e)
	}
	for _, name := range append(strings.Fields(exec("floors")), "nowhere", "") {
		r, e := floor(name)
		text += fmt.Sprintf("%s %q %d %s\n", name, r, e, exec("need "+name)+", "+exec("tiling "+name)+", "+exec("match "+name))
	}
	return text
}

// show writes down all that works show of themselves.
func show(w *works.Works) string {
	return write(w.Book(), w.Audit(), w.Exec, w.Batch, w.Floor)
}

// show writes down what the works that this is the ledger of have to show.
func (l *ledger) show() string {
	batch := func(no int) (api.Batch, api.Errno) {
		if no < 1 || no > len(l.batches) {
			return api.Batch{}, api.ErrNone
		}
		return l.batches[no-1], api.OK
	}
	floor := func(name string) ([]string, api.Errno) {
		if l.halls[name] == nil {
			return nil, api.ErrNone
		}
		return l.halls[name].region, api.OK
	}
	return write(l.lines, l.audit(), l.exec, batch, floor)
}

// some returns one of some strings.
func some(random *rand.Rand, list ...string) string {
	return list[random.Intn(len(list))]
}

// someWord is a parameter of a kind; most are of use.
func someWord(random *rand.Rand, kind byte) string {
	if random.Intn(20) == 0 {
		return someOddWord(random, kind)
	}
	switch kind {
	case 'a':
		return some(random, "hall", "x", "y", "hall", "x", "if", "abcdefgh")
	case 's':
		return some(random, "a", "a", "a", "b", "b", "c", "d")
	case 'r':
		return some(random, "####/####", "##/##", "###/###/##.", "###/#.#/###", "########/########/########/########", "##", ".##/###/###", "##.##/##.##")
	case 'p':
		return some(random, "a", "ab", "ab/ba", "abc/cab/bca", "aab/bbb", "b/a/a/a")
	}
	return some(random, "1", "2", "1", "2", "1", "2", "0", "3", "4", "5", "7", "9")
}

func someOddWord(random *rand.Rand, kind byte) string {
	switch kind {
	case 'a':
		return some(random, "a", "b", "zz", "court", "bath", "nave", "aisle", "apse")
	case 's':
		return some(random, "d", "e", "ab", "1")
	case 'r':
		return some(random, "#./.#", ".", "#/#", "#...#/#####/.....", "######/######/##..##/##..##", "#", "./.", "...##.../..####../.######./########/########/.######./..####../...##...")
	case 'p':
		return some(random, "b", "c/d", "abcd", "d/c/b/a", "abcdab/aaaaaa", "a/a/b")
	}
	return some(random, "10", "-1", "1000", "1001", "1125899906842624", "-1125899906842624", "30", "16")
}

// someLine is a line, and mostly one that can be understood.
func someLine(random *rand.Rand) string {
	name := some(random, "batch", "batch", "batch", "batch", "floor", "floor", "draw", "flip", "flip", "paint", "lay", "lay", "lay", "lay", "lift", "lift", "why", "tiling", "need", "stock", "box", "cut", "match", "floors", "audit")
	line := name
	for i, k := range []byte(kindsOf[name]) {
		word := someWord(random, k)
		if name == "batch" && i == 2 && random.Intn(2) == 0 {
			word = some(random, "3", "4", "5", "6", "7", "8", "11", "14", "20")
		}
		line += some(random, " ", " ", " ", "  ", "    ") + word
	}
	switch random.Intn(20) {
	case 0:
		line += " " + some(random, "a", "1", "#", "x")
	case 1:
		line = line[:random.Intn(len(line)+1)]
	case 2:
		at := random.Intn(len(line) + 1)
		line = line[:at] + some(random, "\t", "\x7f", "\x1f", "0", "-", "/", "e", "A", " ", "\x00", "\u00e9") + line[at:]
	case 3:
		line = some(random, "if ", "if  ", " if ", "if if ", "if if  if ") + line
	case 4:
		line = some(random, " ", "   ", strings.Repeat(" ", 190)) + line
	case 5:
		line += some(random, " ", "   ", strings.Repeat(" ", 190))
	}
	return line
}

// newBoth are works and their ledger.
func newBoth() (*works.Works, *ledger) { return works.New(), newLedger() }

// step executes a line in works and in their ledger.
func step(t *testing.T, w *works.Works, l *ledger, line string) string {
	t.Helper()
	reply, want := w.Exec(line), l.exec(line)
	if reply != want {
		t.Fatalf("%q\nand then %q: %q, want %q", l.lines, line, reply, want)
	}
	return reply
}

// wantSame looks at works and their ledger.
func wantSame(t *testing.T, w *works.Works, l *ledger) {
	t.Helper()
	if got, want := show(w), l.show(); got != want {
		t.Fatalf("after %q\n%s\nwant\n%s", l.lines, got, want)
	}
}

// walk executes random lines.
func walk(t *testing.T, random *rand.Rand, lines int) (*works.Works, *ledger) {
	t.Helper()
	w, l := newBoth()
	for range lines {
		step(t, w, l, someLine(random))
	}
	return w, l
}

// play executes lines; each is followed by an arrow and the reply that it is to have.
func play(t *testing.T, w *works.Works, transcript string) {
	t.Helper()
	for _, row := range strings.Split(strings.TrimSpace(transcript), "\n") {
		line, want, _ := strings.Cut(strings.TrimSpace(row), "->")
		wantReply(t, w, strings.TrimSpace(line), strings.TrimSpace(want))
	}
}

func wantReply(t *testing.T, w *works.Works, line, want string) {
	t.Helper()
	if reply := w.Exec(line); reply != want {
		t.Errorf("%q: %q, want %q", line, reply, want)
	}
}

// start returns works after some lines, none of which may be refused.
func start(t *testing.T, lines ...string) *works.Works {
	t.Helper()
	w, n, e := works.Read(lines)
	if e != api.OK {
		t.Fatalf("line %d, %q: %d", n, lines[n-1], e)
	}
	return w
}

// repeated is a line, again and again.
func repeated(line string, n int) []string { return slices.Repeat([]string{line}, n) }
