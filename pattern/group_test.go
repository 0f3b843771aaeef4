package pattern_test

// P6.3 (Group), P6.4 (Orbifold), P6.8 (Euler), P6.9 (same group): the turning centres and the mirrors of a floor are
// looked for on all points with halves of whole numbers as coordinates, and glued as the symmetries say; what comes of it
// is looked up in the chapter's table.

import (
	"cmp"
	"reflect"
	"slices"
	"testing"

	"encaustic/api"
	"encaustic/pattern"
)

// named is a row of the chapter's table.
type named struct {
	name             string
	cones, corners   []int
	mirrors, crosses int
}

func table() []named {
	return []named{
		{"p1", nil, nil, 0, 0},
		{"p2", []int{2, 2, 2, 2}, nil, 0, 0},
		{"pm", nil, nil, 2, 0},
		{"pg", nil, nil, 0, 2},
		{"cm", nil, nil, 1, 1},
		{"pmm", nil, []int{2, 2, 2, 2}, 1, 0},
		{"pmg", []int{2, 2}, nil, 1, 0},
		{"pgg", []int{2, 2}, nil, 0, 1},
		{"cmm", []int{2}, []int{2, 2}, 1, 0},
		{"p4", []int{4, 4, 2}, nil, 0, 0},
		{"p4m", nil, []int{4, 4, 2}, 1, 0},
		{"p4g", []int{4}, []int{2}, 1, 0},
	}
}

// rowOf finds a group's row.
func rowOf(t *testing.T, name string) named {
	t.Helper()
	rows := table()
	i := slices.IndexFunc(rows, func(n named) bool { return n.name == name })
	if i < 0 {
		t.Fatalf("there is no group %q", name)
	}
	return rows[i]
}

// paper is a floor's points that are to be glued, each with both coordinates doubled, as many as the pattern has.
type paper struct {
	k             *known
	order         []int
	onMirror      []bool
	orbits, edges sets
	isMirrored    bool
}

func (s *paper) index(x, y int) int { return inside(y, 2*s.k.h)*2*s.k.w + inside(x, 2*s.k.w) }

// points calls f with all points of the paper.
func (s *paper) points(f func(x, y int)) {
	for y := range 2 * s.k.h {
		for x := range 2 * s.k.w {
			f(x, y)
		}
	}
}

// step is the way to the next point on a mirror of a kind.
func step(kind int) (int, int) {
	return []int{1, 0, 1, 1}[kind-4], []int{0, 1, 1, -1}[kind-4]
}

func gluedPaper(k *known) *paper {
	n := 4 * k.w * k.h
	s := &paper{k: k, order: slices.Repeat([]int{1}, n), onMirror: make([]bool, n), orbits: newSets(n), edges: newSets(n)}
	reach := 2 * max(k.w, k.h) // of any point, the turns about it and the mirrors through it go no further
	k.each(-reach, reach+1, func(kind int, m api.Move) {
		s.isMirrored = s.isMirrored || kind >= 4
		s.points(func(x, y int) {
			tx, ty := m.A*x+m.B*y+2*m.E, m.C*x+m.D*y+2*m.F
			if m.E >= 0 && m.E < k.w && m.F >= 0 && m.F < k.h {
				s.orbits.join(s.index(x, y), s.index(tx, ty))
				s.edges.join(s.index(x, y), s.index(tx, ty))
			}
			if tx == x && ty == y {
				s.fix(kind, x, y)
			}
		})
	})
	return s
}

// fix notes that a symmetry leaves the point where it is.
func (s *paper) fix(kind, x, y int) {
	i := s.index(x, y)
	switch {
	case kind >= 4:
		s.onMirror[i] = true
		dx, dy := step(kind)
		s.edges.join(i, s.index(x+dx, y+dy))
	case kind == 2:
		s.order[i] = max(s.order[i], 2)
	case kind > 0:
		s.order[i] = 4
	}
}

// shape counts the features; the crosses are what Euler's number leaves, if it is not a torus.
func (s *paper) shape() named {
	var got named
	euler := 240
	seen, edges := map[int]bool{}, map[int]bool{}
	for i, order := range s.order {
		if s.onMirror[i] && !edges[s.edges.root(i)] {
			edges[s.edges.root(i)] = true
			got.mirrors++
			euler -= 120
		}
		if order == 1 || seen[s.orbits.root(i)] {
			continue
		}
		seen[s.orbits.root(i)] = true
		if s.onMirror[i] {
			got.corners = append(got.corners, order)
			euler -= 60 * (order - 1) / order
		} else {
			got.cones = append(got.cones, order)
			euler -= 120 * (order - 1) / order
		}
	}
	down := func(a, b int) int { return cmp.Compare(b, a) }
	slices.SortFunc(got.corners, down)
	slices.SortFunc(got.cones, down)
	if s.isMirrored || len(got.cones) > 0 {
		got.crosses = euler / 120
	}
	return got
}

// slowName looks the shape up.
func slowName(t *testing.T, p []string) string {
	t.Helper()
	shape := gluedPaper(know(p)).shape()
	for _, row := range table() {
		shape.name = row.name
		if reflect.DeepEqual(row, shape) {
			return row.name
		}
	}
	t.Fatalf("%q: no group has the shape %v", p, shape)
	return ""
}

func TestGroupExamples(t *testing.T) {
	for _, c := range []struct {
		want string
		p    []string
	}{
		{"p4m", []string{"a"}},
		{"p4m", []string{"cccccc", "cccccc"}},
		{"pmm", []string{"ab"}},
		{"pmm", []string{"a", "b"}},
		{"p4m", []string{"ab", "ba"}},
		{"cm", []string{"abc", "cab", "bca"}},
		{"cm", []string{"abc", "bca", "cab"}},
		{"pmm", []string{"ab", "cd"}},
		{"p4m", []string{"ab", "aa"}},
		{"p4m", []string{"abbb", "bbbb", "bbab", "bbbb"}},

		{"p1", []string{"aab", "bcc", "ddd"}},
		{"p1", []string{"cba", "dbb", "adb"}},
		{"p1", aperiodic(6, 6)},
		{"p2", []string{"aaa", "abb", "bab"}},
		{"p2", []string{"bba", "abb", "aaa"}},
		{"pm", []string{"abc"}},
		{"pm", []string{"a", "b", "c"}},
		{"pm", []string{"adab", "bbdd", "abad", "ddbb"}},
		{"pg", []string{"abab", "bccb", "cbbc"}},
		{"pg", []string{"aaba", "abbb", "abaa", "bbba"}},
		{"pg", []string{"bcaaba", "acbaca", "caccab", "ababca", "acaacb", "cabcac"}},
		{"cm", []string{"ca", "bc", "ac", "cb"}},
		{"cm", []string{"baac", "acba"}},
		{"cm", []string{"aab", "aba", "bab"}},
		{"pmm", []string{"cbcc", "ccbc", "cccb", "bccc"}},
		{"pmm", []string{"aaa", "bbc"}},
		{"pmg", []string{"aa", "ab", "ba"}},
		{"pmg", []string{"abc", "cba"}},
		{"pmg", []string{"abba", "aabb", "baab", "bbaa"}},
		{"pgg", []string{"abab", "aabb", "baba", "bbaa"}},
		{"pgg", []string{"bbabaa", "aababb", "bbbaba", "baabba", "abbaab", "ababbb"}},
		{"cmm", []string{"abb", "bab", "bba"}},
		{"cmm", []string{"aa", "ab", "aa", "ba"}},
		{"cmm", []string{"baaa", "aaba"}},
		{"p4", []string{"baaa", "bbba", "bbab", "abaa"}},
		{"p4", []string{"baaaa", "aabaa", "aaaab", "abaaa", "aaaba"}},
		{"p4m", []string{"abaa", "baba", "aaab", "baba"}},
		{"p4g", []string{"babb", "abbb", "bbab", "bbba"}},
		{"p4g", []string{"ababbb", "bbbbab", "babbbb", "bbbaba", "babbbb", "bbbbab"}},
	} {
		if got, e := pattern.Group(c.p); got != c.want || e != api.OK {
			t.Errorf("%q: Group is %s, %d, want %s", c.p, got, e, c.want)
		}
		if slow := slowName(t, c.p); slow != c.want {
			t.Errorf("%q: the shape is that of %s, want %s", c.p, slow, c.want)
		}
	}
}

// TestGroupIsThatOfShape also sees that the patterns have all groups, many times.
func TestGroupIsThatOfShape(t *testing.T) {
	seen := map[string]int{}
	for _, p := range manyPatterns() {
		got, e := pattern.Group(p)
		if want := slowName(t, p); got != want || e != api.OK {
			t.Errorf("%q: Group is %s, %d, and the shape is that of %s", p, got, e, want)
		}
		seen[got]++
	}
	for _, row := range table() {
		if seen[row.name] < 10 {
			t.Errorf("only %d patterns are %s", seen[row.name], row.name)
		}
	}
}

func isOrbifold(got api.Orbifold, want named) bool {
	return slices.Equal(got.Cones, want.cones) && slices.Equal(got.Corners, want.corners) && got.Mirrors == want.mirrors && got.Crosses == want.crosses
}

func TestOrbifoldIsThatOfGroup(t *testing.T) {
	for _, p := range manyPatterns() {
		name, _ := pattern.Group(p)
		if got, e := pattern.Orbifold(p); !isOrbifold(got, rowOf(t, name)) || e != api.OK {
			t.Errorf("%q: of %s, the orbifold is %v, %d", p, name, got, e)
		}
	}
}

// TestEuler counts in 120ths.
func TestEuler(t *testing.T) {
	for _, p := range manyPatterns() {
		o, e := pattern.Orbifold(p)
		must(t, e)
		euler := 240 - 120*o.Mirrors - 120*o.Crosses
		for _, n := range o.Cones {
			euler -= 120 * (n - 1) / n
		}
		for _, n := range o.Corners {
			euler -= 60 * (n - 1) / n
		}
		if name, _ := pattern.Group(p); name == "p1" {
			euler -= 240 // it is a torus, and no sphere
		}
		if euler != 0 {
			t.Errorf("%q: the Euler number of %v is %d/120", p, o, euler)
		}
	}
}

// exchanged is the pattern with other colours for a to d.
func exchanged(p []string, colours string) []string {
	var list []string
	for _, row := range p {
		other := []byte(row)
		for i := range other {
			other[i] = colours[row[i]-'a']
		}
		list = append(list, string(other))
	}
	return list
}

// doubled are the pattern twice as wide and twice as high, where these are patterns.
func doubled(p []string) [][]string {
	var list [][]string
	if len(p[0])*2 <= api.MaxPeriod {
		var wide []string
		for _, row := range p {
			wide = append(wide, row+row)
		}
		list = append(list, wide)
	}
	if len(p)*2 <= api.MaxPeriod {
		list = append(list, slices.Concat(p, p))
	}
	return list
}

// parts are the parts of all cells that the orbits have, in 3600ths: all measures are divisors of 60.
func parts(t *testing.T, p []string) []int {
	t.Helper()
	rows, e := pattern.Orbits(p)
	must(t, e)
	var list []int
	for _, row := range rows {
		for _, number := range row {
			for len(list) <= number {
				list = append(list, 0)
			}
			list[number] += 3600 / (len(p) * len(p[0]))
		}
	}
	slices.Sort(list)
	return list
}

func TestSameGroup(t *testing.T) {
	for i, p := range manyPatterns() {
		others := doubled(p)
		for _, colours := range []string{"badc", "bcda", "dcba"} {
			others = append(others, exchanged(p, colours))
		}
		for kind := range 8 {
			q, e := pattern.Apply(p, move(kind, i%7-3, i%1000))
			must(t, e)
			others = append(others, q)
		}
		group, e := pattern.Group(p)
		must(t, e)
		want := parts(t, p)
		for _, q := range others {
			if got, e := pattern.Group(q); got != group || e != api.OK {
				t.Errorf("%q is %s, and %q is %s, %d", p, group, q, got, e)
			}
			if got := parts(t, q); !slices.Equal(got, want) {
				t.Errorf("%q has the parts %v, and %q has %v", p, want, q, got)
			}
		}
	}
}
