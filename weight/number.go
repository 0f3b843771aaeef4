package weight

// number is what combinations are made of: numbers of a type N with a sum and a product, whose zero value is 0.
type number[N any] interface {
	plus(N) N
	times(N) N
}

// whole is a whole number.
type whole int

func (a whole) plus(b whole) whole {
	return a + b
}

func (a whole) times(b whole) whole {
	return a * b
}

// ratio is a rational number in lowest terms. A denominator of 0 stands for 1, so that the zero value is 0.
type ratio struct{ num, den int }

// ratioOf returns num / den; den may be below 0, but is not 0.
func ratioOf(num, den int) ratio {
	if den < 0 {
		num, den = -num, -den
	}
	common := divisor(max(num, -num), den)
	return ratio{num / common, den / common}
}

func (a ratio) denominator() int {
	return max(a.den, 1)
}

// over returns the numerator that a has with another denominator, a multiple of its own.
func (a ratio) over(den int) int {
	return a.num * (den / a.denominator())
}

func (a ratio) plus(b ratio) ratio {
	den := multiple(a.denominator(), b.denominator())
	return ratioOf(a.over(den)+b.over(den), den)
}

func (a ratio) times(b ratio) ratio {
	return ratioOf(a.num*b.num, a.denominator()*b.denominator())
}

func (a ratio) negative() ratio {
	return ratio{-a.num, a.den}
}

// inverse returns 1 / a; a is not 0.
func (a ratio) inverse() ratio {
	return ratioOf(a.denominator(), a.num)
}

// fraction returns what a is above the next whole number that is not above it.
func (a ratio) fraction() ratio {
	return ratioOf(modulo(a.num, a.denominator()), a.denominator())
}

func (a ratio) isNot0() bool {
	return a.num != 0
}

func (a ratio) isBelow0() bool {
	return a.num < 0
}

// divisor returns the greatest common divisor of two numbers that are not below 0.
func divisor(a, b int) int {
	for b != 0 {
		a, b = b, a%b
	}
	return a
}

// multiple returns the least common multiple of two numbers above 0.
func multiple(a, b int) int {
	return a / divisor(a, b) * b
}

// modulo returns the rest of a that is not below 0; m is above 0.
func modulo(a, m int) int {
	return (a%m + m) % m
}
