package square

import (
	"cmp"
	"slices"

	"encaustic/api"
)

// level is a horizontal segment.
type level struct{ y, left, right int }

// Is tells whether squares is a dissection of the rectangle of w by h.
func Is(w, h int, squares []api.Square) (bool, api.Errno) {
	if !isRectangle(w, h) {
		return false, api.ErrArg
	}
	if len(squares) > api.MaxSquares {
		return false, api.ErrLimit
	}
	return isDissection(w, h, squares), api.OK
}

// Network returns the network of a dissection: the number of its levels, and a wire for each square.
func Network(w, h int, squares []api.Square) (int, []api.Wire, api.Errno) {
	ok, e := Is(w, h, squares)
	if e != api.OK {
		return 0, nil, e
	}
	if !ok {
		return 0, nil, api.ErrPlan
	}
	sides := sidesOf(squares)
	levels := levelsOf(sides)
	if len(levels) > api.MaxVertices {
		return 0, nil, api.ErrFull
	}
	wires := make([]api.Wire, len(squares))
	for i, s := range squares {
		wires[i].A = place(levels, grown(upper(s), sides))
		wires[i].B = place(levels, grown(lower(s), sides))
	}
	return len(levels), wires, api.OK
}

func isRectangle(w, h int) bool {
	return 1 <= w && w <= api.MaxRect && 1 <= h && h <= api.MaxRect
}

// isDissection needs no look at what is covered: squares that lie within the rectangle and do not overlap cover it
// if their areas sum to its area.
func isDissection(w, h int, squares []api.Square) bool {
	area := 0
	for i, s := range squares {
		if !isWithin(w, h, s) {
			return false
		}
		for _, before := range squares[:i] {
			if overlap(before, s) {
				return false
			}
		}
		area += s.Side * s.Side
	}
	return area == w*h
}

// isWithin subtracts where adding could overflow.
func isWithin(w, h int, s api.Square) bool {
	if s.Side < 1 || s.Side > w || s.Side > h {
		return false
	}
	return 0 <= s.X && s.X <= w-s.Side && 0 <= s.Y && s.Y <= h-s.Side
}

func overlap(a, b api.Square) bool {
	return a.X < b.X+b.Side && b.X < a.X+a.Side && a.Y < b.Y+b.Side && b.Y < a.Y+a.Side
}

func upper(s api.Square) level {
	return level{y: s.Y, left: s.X, right: s.X + s.Side}
}

func lower(s api.Square) level {
	return level{y: s.Y + s.Side, left: s.X, right: s.X + s.Side}
}

func sidesOf(squares []api.Square) []level {
	var sides []level
	for _, s := range squares {
		sides = append(sides, upper(s), lower(s))
	}
	return sides
}

// levelsOf returns each level once, in the order of their y and then their left ends.
func levelsOf(sides []level) []level {
	var levels []level
	for _, side := range sides {
		l := grown(side, sides)
		if place(levels, l) < 0 {
			levels = append(levels, l)
		}
	}
	slices.SortFunc(levels, func(a, b level) int {
		if a.y != b.y {
			return cmp.Compare(a.y, b.y)
		}
		return cmp.Compare(a.left, b.left)
	})
	return levels
}

// place returns the index of a level, or -1.
func place(levels []level, wanted level) int {
	for i, l := range levels {
		if l == wanted {
			return i
		}
	}
	return -1
}

// grown returns the level that a side belongs to. A side that was passed over may touch what a later one has added,
// so it looks at all of them again until none adds anything.
func grown(side level, sides []level) level {
	for {
		wider := side
		for _, s := range sides {
			wider = joined(wider, s)
		}
		if wider == side {
			return side
		}
		side = wider
	}
}

// joined returns a, longer by b if they have a point in common.
func joined(a, b level) level {
	if a.y != b.y || a.right < b.left || b.right < a.left {
		return a
	}
	return level{y: a.y, left: min(a.left, b.left), right: max(a.right, b.right)}
}
