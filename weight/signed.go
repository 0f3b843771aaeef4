package weight

// signed returns whole coefficients with which the pieces fill the goal, or else weights that give a whole number to
// each piece, but not to the goal.
func (f *frame) signed() ([]int, combination[ratio]) {
	if weights := f.contradiction(); weights != nil {
		return nil, weights.each(ratioOf(1, 2).times).each(ratio.fraction)
	}
	l := f.ladder()
	rest, stuck := l.take(f.row(f.goal, l.modulus))
	if rest == nil {
		return nil, f.sum(l.refusal(stuck)).each(ratio.fraction)
	}
	return f.complete(rest[f.size:]), nil
}

// ladder says what the gauges can give to sums of pieces with whole coefficients. Each of its rows is such a sum: first
// what each gauge gives to it, times a modulus that makes all this whole, and then the coefficients of the pieces. All
// this is modulo the modulus, since tied pieces can make up for the rest: each of them changes what one gauge gives by 1,
// and nothing else. The row i has 0 before the place i, and there a divisor of the modulus, which is the modulus itself
// until a sum is found that has less.
type ladder struct {
	modulus int
	rows    []combination[whole]
}

func (f *frame) ladder() ladder {
	l := ladder{modulus: f.modulus()}
	for i := range f.size {
		l.rows = append(l.rows, unit(f.size+len(f.pieces), i, whole(l.modulus)))
	}
	for j, piece := range f.pieces {
		row := f.row(piece, l.modulus)
		row[f.size+j] = 1
		l.add(row)
	}
	return l
}

// modulus returns the least number that makes all weights whole. It divides the determinant of the tied pieces and of
// the places without one.
func (f *frame) modulus() int {
	den := 1
	for _, g := range f.gauges {
		den = multiple(den, denominator(g.weights))
	}
	return den
}

// row returns the row of a list of places, without coefficients. For a tied piece it is 0, and so the ladder has no
// coefficients of tied pieces.
func (f *frame) row(places []int, modulus int) combination[whole] {
	row := make(combination[whole], f.size+len(f.pieces))
	for i, g := range f.gauges {
		row[i] = whole(modulo(g.weights.of(places).over(modulus), modulus))
	}
	return row
}

// add adds what can be had with one more row: at each place Euclid's algorithm leaves the greatest common divisor.
func (l ladder) add(row combination[whole]) {
	for i := range l.rows {
		for row[i] != 0 {
			rest := l.less(l.rows[i], l.rows[i][i]/row[i], row)
			l.rows[i], row = row, rest
		}
	}
}

// take takes rows of the ladder away from a row until it has 0 for each gauge, and returns it. If that is impossible it
// returns nil, and at which gauge.
func (l ladder) take(row combination[whole]) (combination[whole], int) {
	for i, step := range l.rows {
		if row[i]%step[i] != 0 {
			return nil, i
		}
		row = l.less(row, row[i]/step[i], step)
	}
	return row, 0
}

// less returns a row without n times another one.
func (l ladder) less(row combination[whole], n whole, other combination[whole]) combination[whole] {
	return row.plus(-n, other).each(func(n whole) whole { return whole(modulo(int(n), l.modulus)) })
}

// refusal returns multiples of the gauges, of which the sum gives whole numbers to all pieces, but not to the row with
// which take is stuck at a gauge; those after that one are not needed. The division leaves no rest: the row i, times the
// modulus over its number at i, has 0 up to that place, and is therefore a sum of later rows.
func (l ladder) refusal(stuck int) combination[whole] {
	multiples := make(combination[whole], len(l.rows))
	multiples[stuck] = whole(l.modulus) / l.rows[stuck][stuck]
	for i := stuck - 1; i >= 0; i-- {
		var given whole
		for k := i + 1; k <= stuck; k++ {
			given += multiples[k] * l.rows[i][k]
		}
		multiples[i] = whole(modulo(-int(given/l.rows[i][i]), l.modulus))
	}
	return multiples
}

// sum returns the sum of multiples of the gauges.
func (f *frame) sum(multiples combination[whole]) combination[ratio] {
	weights := make(combination[ratio], f.size)
	for i, g := range f.gauges {
		weights = weights.plus(ratioOf(int(multiples[i]), 1), g.weights)
	}
	return weights
}

// complete returns the coefficients of what was taken away, and those that tied pieces need to fill what is missing.
func (f *frame) complete(taken combination[whole]) []int {
	coefficients := make([]int, len(f.pieces))
	for j, n := range taken {
		coefficients[j] = -int(n)
	}
	for _, g := range f.gauges {
		if g.piece == untied {
			continue
		}
		missing := g.weights.of(f.goal)
		for j, piece := range f.pieces {
			missing = missing.plus(g.weights.of(piece).times(ratioOf(-coefficients[j], 1)))
		}
		coefficients[g.piece] = missing.num
	}
	return coefficients
}
