package works

import (
	"strconv"
	"strings"

	"encaustic/api"
)

// badLine is the reply to a line that cannot be understood at all.
const badLine = "? line"

// command is what a name stands for: the kinds of its parameters, whether it changes the works, and what it does.
type command struct {
	kinds   []kind
	changes bool
	do      func(w *Works, p params) string
}

// order is a line that was understood: its words, but for each `if` at its beginning, the command that they name, and
// the parameters. It is a trial if there was an `if`.
type order struct {
	words []string
	trial bool
	command
	params
}

// isBlank tells whether a line has no words.
func isBlank(line string) bool {
	return strings.Trim(line, " ") == ""
}

// isPrintable tells whether all bytes are from 32 to 126. Of these only the blank separates words.
func isPrintable(line string) bool {
	for i := range len(line) {
		if line[i] < 32 || line[i] > 126 {
			return false
		}
	}
	return true
}

// read returns what a line orders, or what is wrong with it. A line without words is wrong here. The words are of a copy
// of the line: some of them are kept, and must not keep the whole text that the line may be a part of.
func read(line string) (order, string) {
	if len(line) > api.MaxLine || !isPrintable(line) {
		return order{}, badLine
	}
	o := order{words: strings.Fields(strings.Clone(line))}
	for len(o.words) > 0 && o.words[0] == "if" {
		o.trial, o.words = true, o.words[1:]
	}
	if len(o.words) == 0 {
		return order{}, badLine
	}
	c, ok := commandOf(o.words[0])
	if !ok || len(c.kinds) != len(o.words)-1 {
		return order{}, badLine
	}
	o.command = c
	for i, k := range c.kinds {
		if !o.params.add(k, o.words[i+1]) {
			return order{}, "? word " + strconv.Itoa(i+1)
		}
	}
	return o, ""
}

func commandOf(name string) (command, bool) {
	c, ok := map[string]command{
		"batch": {[]kind{aShade, aNumber, aNumber}, true, (*Works).addBatch},
		"floor": {[]kind{aName, aRegion}, true, (*Works).addFloor},
		"draw":  {[]kind{aName, aNumber}, true, (*Works).draw},
		"flip":  {[]kind{aName, aNumber, aNumber}, true, (*Works).flip},
		"paint": {[]kind{aName, aPattern}, true, (*Works).paint},
		"lay":   {[]kind{aName, aNumber}, true, (*Works).lay},
		"lift":  {[]kind{aName}, true, (*Works).lift},

		"why":    {[]kind{aRegion}, false, (*Works).why},
		"tiling": {[]kind{aName}, false, (*Works).tiling},
		"need":   {[]kind{aName}, false, (*Works).need},
		"stock":  {[]kind{aNumber}, false, (*Works).stock},
		"box":    {[]kind{aNumber, aNumber, aNumber}, false, (*Works).box},
		"cut":    {[]kind{aNumber, aNumber}, false, (*Works).cut},
		"match":  {[]kind{aName}, false, (*Works).match},
		"floors": {nil, false, (*Works).names},
		"audit":  {nil, false, (*Works).report},
	}[name]
	return c, ok
}
