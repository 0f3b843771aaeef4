package weight

// gauge is weights of the places; what it gives to a list of places is the sum of their weights. A gauge that is tied to
// a piece gives 1 to it, and the other gauges of its frame give it 0.
type gauge struct {
	weights combination[ratio]
	piece   int
}

// untied stands for the piece of a gauge that is tied to none.
const untied = -1

// frame has as many gauges as its task has places, and all weights are sums of multiples of theirs. What a tied gauge
// gives to the goal is the coefficient of its piece in the only way to fill the goal with tied pieces.
//
// All its numbers are quotients of determinants whose columns are pieces, single places and once the goal. There are at
// most 16 columns of a length of at most the root of 5 (the goal: 4), or, if the places are colours, 6 of at most 5 (the
// goal: 16), so that they are below 2^20 (Hadamard), and products and sums of a few such quotients do not overflow.
type frame struct {
	task
	gauges []gauge
}

// frameOf ties gauges to pieces as long as that is possible: untied ones are left with 0 for all pieces.
func frameOf(t task) *frame {
	f := &frame{task: t}
	for i := range t.size {
		f.gauges = append(f.gauges, gauge{unit(t.size, i, ratioOf(1, 1)), untied})
	}
	for i := range f.gauges {
		if piece, ok := f.first(i, ratio.isNot0); ok {
			f.tie(i, piece)
		}
	}
	return f
}

// first returns the first piece to which the gauge i gives what is wanted.
func (f *frame) first(i int, wanted func(ratio) bool) (int, bool) {
	for j, piece := range f.pieces {
		if wanted(f.gauges[i].weights.of(piece)) {
			return j, true
		}
	}
	return 0, false
}

// tie ties a gauge to a piece to which it does not give 0, and to no other one.
func (f *frame) tie(i, piece int) {
	places := f.pieces[piece]
	own := f.gauges[i].weights
	own = own.each(own.of(places).inverse().times)
	for k, g := range f.gauges {
		f.gauges[k].weights = g.weights.plus(g.weights.of(places).negative(), own)
	}
	f.gauges[i] = gauge{own, piece}
}

// contradiction returns weights that give 0 to all pieces and 1 to the goal, or nil if there are none.
func (f *frame) contradiction() combination[ratio] {
	for _, g := range f.gauges {
		given := g.weights.of(f.goal)
		if g.piece == untied && given.isNot0() {
			return g.weights.each(given.inverse().times)
		}
	}
	return nil
}
