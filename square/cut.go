package square

import (
	"encaustic/api"
)

// Cut returns the dissection of the rectangle of w by h by greatest squares.
func Cut(w, h int) ([]api.Square, api.Errno) {
	if !isRectangle(w, h) {
		return nil, api.ErrArg
	}
	var squares []api.Square
	x, y := 0, 0
	for w > 0 && h > 0 {
		if len(squares) == api.MaxSquares {
			return nil, api.ErrFull
		}
		side := min(w, h)
		squares = append(squares, api.Square{X: x, Y: y, Side: side})
		if w > h {
			x += side
			w -= side
		} else {
			y += side
			h -= side
		}
	}
	return squares, api.OK
}
