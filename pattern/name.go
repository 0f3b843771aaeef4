package pattern

import (
	"slices"

	"encaustic/api"
)

// name is the name of the wallpaper group.
func (s group) name() string {
	_, quarter := s.of(quarterTurn)
	_, half := s.of(halfTurn)
	switch {
	case quarter:
		return s.nameWithQuarterTurns()
	case half:
		return s.nameWithHalfTurns()
	}
	return s.nameWithoutTurns()
}

func (s group) nameWithQuarterTurns() string {
	switch {
	case len(s.mirrored()) == 0:
		return "p4"
	case slices.ContainsFunc(s.middles(quarterTurn), s.isOnMirror):
		return "p4m"
	}
	return "p4g"
}

func (s group) nameWithHalfTurns() string {
	if len(s.mirrored()) == 0 {
		return "p2"
	}
	switch s.directions() {
	case 0:
		return "pgg"
	case 1:
		return "pmg"
	}
	if slices.ContainsFunc(s.middles(halfTurn), s.isOffMirrors) {
		return "cmm"
	}
	return "pmm"
}

func (s group) nameWithoutTurns() string {
	mirrored := s.mirrored()
	if len(mirrored) == 0 {
		return "p1"
	}
	if s.directions() == 0 {
		return "pg"
	}
	// Two kinds would make a turn: so this is the kind of all mirrors and glides, and their lines are parallel.
	if slices.ContainsFunc(s.middles(mirrored[0]), s.isOffMirrors) {
		return "cm"
	}
	return "pm"
}

// mirrored returns the mirrored kinds that symmetries have.
func (s group) mirrored() []int {
	var list []int
	for k := firstMirrored; k < len(kinds); k++ {
		if _, ok := s.of(k); ok {
			list = append(list, k)
		}
	}
	return list
}

// directions is in how many directions there are mirrors: the lines of each kind are parallel, and those of two are not.
func (s group) directions() int {
	n := 0
	for _, k := range s.mirrored() {
		if slices.ContainsFunc(s.middles(k), func(c api.Cell) bool { return s.hasMirror(k, c) }) {
			n++
		}
	}
	return n
}

// middles returns, with both coordinates doubled, the centres of the turns of a kind, or points on the lines of the
// mirrors and glides of a kind (half-way between the cell 0, 0 and where it goes). Four of them are enough: for any
// other symmetry of the kind it is one of these, moved by a translation that is a symmetry itself.
func (s group) middles(kind int) []api.Cell {
	m, ok := s.of(kind)
	if !ok {
		return nil
	}
	g := s.grid
	list := []api.Cell{{X: m.E, Y: m.F}, {X: m.E, Y: m.F + g.D}, {X: m.E + g.A, Y: m.F + g.B}, {X: m.E + g.A, Y: m.F + g.B + g.D}}
	if kind == quarterTurn {
		for i, c := range list {
			list[i] = api.Cell{X: c.X - c.Y, Y: c.X + c.Y}
		}
	}
	return list
}

// hasMirror tells whether a mirror of a kind goes through the point c.X/2, c.Y/2.
func (s group) hasMirror(kind int, c api.Cell) bool {
	m, ok := mirrorThrough(kind, c)
	return ok && s.has(m)
}

// isOnMirror tells whether any mirror goes through the point c.X/2, c.Y/2.
func (s group) isOnMirror(c api.Cell) bool {
	return slices.ContainsFunc(s.mirrored(), func(k int) bool { return s.hasMirror(k, c) })
}

func (s group) isOffMirrors(c api.Cell) bool { return !s.isOnMirror(c) }
