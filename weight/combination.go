package weight

// combination has a number for each of some things: a coefficient for each piece, or a weight for each place.
type combination[N number[N]] []N

// unit returns the combination in which one of size things has a number, and all others have 0.
func unit[N number[N]](size, at int, n N) combination[N] {
	c := make(combination[N], size)
	c[at] = n
	return c
}

// of returns what the things of a list have all together.
func (c combination[N]) of(things []int) N {
	var sum N
	for _, i := range things {
		sum = sum.plus(c[i])
	}
	return sum
}

// plus returns c and n times d.
func (c combination[N]) plus(n N, d combination[N]) combination[N] {
	sum := make(combination[N], len(c))
	for i := range c {
		sum[i] = c[i].plus(n.times(d[i]))
	}
	return sum
}

// each returns c with each number changed.
func (c combination[N]) each(change func(N) N) combination[N] {
	changed := make(combination[N], len(c))
	for i := range c {
		changed[i] = change(c[i])
	}
	return changed
}
