package works

import (
	"strconv"
	"strings"

	"encaustic/api"
)

// refusal is what a refused command panics with.
type refusal struct{ errno api.Errno }

func refuseIf(is bool, e api.Errno) {
	if is {
		panic(refusal{e})
	}
}

// must refuses a command for which another layer has an error.
func must(e api.Errno) {
	refuseIf(e != api.OK, e)
}

// answer carries an order out, on a copy if it is a trial, and returns the reply.
func (w *Works) answer(o order) string {
	if o.trial {
		w = w.copied()
	}
	reply, e := w.carryOut(o)
	if e != api.OK {
		return "! " + strconv.Itoa(int(e))
	}
	return reply
}

// enter executes a line of a book: only a command that changes the works can be in one.
func (w *Works) enter(line string) api.Errno {
	o, complaint := read(line)
	if complaint != "" || o.trial || !o.changes {
		return api.ErrForm
	}
	_, e := w.carryOut(o)
	return e
}

// carryOut does what an order asks for, and returns the reply, or the error with which it is refused. A panic that is not
// a refusal would be a mistake in this program, and is not hidden: the assertion panics again.
func (w *Works) carryOut(o order) (reply string, e api.Errno) {
	defer func() {
		if r := recover(); r != nil {
			e = r.(refusal).errno
		}
	}()
	if o.changes {
		return w.change(o), api.OK
	}
	return o.do(w, o.params), api.OK
}

// change lets a command change a copy, which becomes the works only in the end: so a command that is refused has changed
// nothing, however far it had come.
func (w *Works) change(o order) string {
	next := w.copied()
	reply := o.do(next, o.params)
	refuseIf(len(next.book) >= api.MaxBook, api.ErrFull)
	next.book = append(next.book, strings.Join(o.words, " "))
	*w = *next
	return reply
}
