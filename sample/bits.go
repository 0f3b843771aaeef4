package sample

import (
	"encaustic/api"
)

// next returns the number that comes after x in the series that a seed begins; it wraps around at 2^64.
func next(x uint64) uint64 {
	return x*6364136223846793005 + 1442695040888963407
}

// movesAt returns n moves at some points, or none if there are no points. It takes the upper bits of the numbers of the
// series, since the lower ones repeat soon.
func movesAt(points []api.Cell, seed uint64, n int) []api.Nudge {
	if len(points) == 0 {
		return nil
	}
	moves := make([]api.Nudge, n)
	for i := range moves {
		seed = next(seed)
		y := seed >> 33
		p := points[(y>>1)%uint64(len(points))]
		moves[i] = api.Nudge{X: p.X, Y: p.Y, Up: y%2 == 1}
	}
	return moves
}
