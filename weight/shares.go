package weight

// shares returns coefficients, none below 0, with which the pieces fill the goal, or else weights that give at most 0 to
// each piece and more to the goal. It always takes the first gauge and the first piece, by the order of the pieces, of
// those that serve: so the same pieces are never tied again (Bland).
func (f *frame) shares() (combination[ratio], combination[ratio]) {
	if weights := f.contradiction(); weights != nil {
		return nil, weights
	}
	for {
		i, ok := f.firstBelow0()
		if !ok {
			return f.tiedShares(), nil
		}
		piece, ok := f.first(i, ratio.isBelow0)
		if !ok {
			return nil, f.gauges[i].weights.each(ratio.negative)
		}
		f.tie(i, piece)
	}
}

// firstBelow0 returns the gauge of the first piece that would have a share below 0. Where there is no contradiction,
// untied gauges give 0 to the goal.
func (f *frame) firstBelow0() (int, bool) {
	first, found := 0, false
	for i, g := range f.gauges {
		if !g.weights.of(f.goal).isBelow0() {
			continue
		}
		if !found || g.piece < f.gauges[first].piece {
			first, found = i, true
		}
	}
	return first, found
}

func (f *frame) tiedShares() combination[ratio] {
	shares := make(combination[ratio], len(f.pieces))
	for _, g := range f.gauges {
		if g.piece != untied {
			shares[g.piece] = g.weights.of(f.goal)
		}
	}
	return shares
}
