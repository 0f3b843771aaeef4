package works

import (
	"strconv"
	"strings"

	"encaustic/api"
	"encaustic/domino"
	"encaustic/pattern"
)

// maxNumber is the greatest number that a word may be; its negative is the least one.
const maxNumber = 1 << 50

// maxName is the length of the longest name.
const maxName = 8

// kind is what a parameter has to be.
type kind int

const (
	aNumber kind = iota
	aName
	aShade
	aRegion
	aPattern
)

// params are the parameters of a command. No command has two of a kind, but for numbers, nor both a region and a pattern:
// rows are those of either.
type params struct {
	name    string
	shade   byte
	rows    []string
	numbers []int
}

// add adds a word as a parameter, and tells whether it is of that kind.
func (p *params) add(k kind, word string) bool {
	switch k {
	case aNumber:
		n, ok := number(word)
		p.numbers = append(p.numbers, n)
		return ok
	case aName:
		p.name = word
		return len(word) <= maxName && isWithin(word, 'a', 'z')
	case aShade:
		p.shade = word[0]
		return len(word) == 1 && isWithin(word, 'a', 'd')
	case aRegion:
		p.rows = strings.Split(word, "/")
		return isRegion(p.rows)
	case aPattern:
		p.rows = strings.Split(word, "/")
		return isPattern(p.rows)
	default:
		return false
	}
}

func isRegion(rows []string) bool {
	_, e := domino.Is(rows, nil)
	return e == api.OK
}

func isPattern(rows []string) bool {
	_, e := pattern.Lattice(rows)
	return e == api.OK
}

// number takes only what is written as numbers are: so no needless zeros, no plus sign, and no minus sign before 0.
func number(word string) (int, bool) {
	n, err := strconv.Atoi(word)
	return n, err == nil && strconv.Itoa(n) == word && -maxNumber <= n && n <= maxNumber
}

// isWithin tells whether all bytes are from the first to the last one.
func isWithin(word string, first, last byte) bool {
	for i := range len(word) {
		if word[i] < first || word[i] > last {
			return false
		}
	}
	return true
}

// listed writes numbers with blanks between them.
func listed(numbers ...int) string {
	words := make([]string, len(numbers))
	for i, n := range numbers {
		words[i] = strconv.Itoa(n)
	}
	return strings.Join(words, " ")
}
