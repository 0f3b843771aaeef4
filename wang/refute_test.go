package wang_test

// P7.5 (Refutes, Refute), P7.9 (refusal): proofs are read as the chapter says, and right ones are spoiled.

import (
	"math/rand"
	"slices"
	"testing"

	"encaustic/api"
	"encaustic/wang"
)

func TestRefutesExamples(t *testing.T) {
	end, long := tiles("0010"), stairs(3)
	fork := tiles("0010", "0020", "2030")
	for _, c := range []struct {
		set   []api.Wang
		w, h  int
		proof [][]int
		want  bool
	}{
		{end, 1, 2, [][]int{{1, 1}}, true},
		{end, 1, 2, [][]int{{1, 0}, {1, 1}}, false},
		{end, 1, 2, [][]int{{1, 1}, {1, 2}}, true},
		{end, 1, 2, [][]int{{1, 1}, {1, 7}}, true},
		{end, 1, 2, [][]int{{1, 1}, {1, 8}}, false},
		{end, 1, 2, [][]int{{1, -1}, {1, 1}}, false},
		{end, 1, 2, [][]int{{1, 2}, {1, 1}}, false},
		{end, 1, 2, [][]int{{1, 1}, {1, 1}}, false},
		{end, 1, 2, [][]int{{1, 2}}, false},
		{end, 1, 2, [][]int{{0, 1}}, false},
		{end, 1, 2, [][]int{{0, 7}, {1, 1}}, false},
		{end, 1, 2, [][]int{{-1, 7}, {1, 1}}, false},
		{end, 1, 2, [][]int{{least, 7}, {1, 1}}, false},
		{end, 1, 2, [][]int{{2, 1}}, false},
		{end, 1, 2, [][]int{{1, 1}, {2, 7}}, false},
		{end, 1, 2, [][]int{{1, 1}, {greatest, 7}}, false},
		{end, 1, 2, [][]int{{1}}, false},
		{end, 1, 2, [][]int{{1, 1}, {}}, false},
		{end, 1, 2, [][]int{{}, {1, 1}}, false},
		{end, 1, 2, [][]int{nil, {1, 1}}, false},
		{end, 1, 2, nil, false},
		{end, 1, 3, [][]int{{1, 1}}, true},
		{end, 1, 3, [][]int{{2, 1}}, true},
		{end, 1, 3, [][]int{{1, 1}, {2, 1}}, true},
		{end, 1, 3, [][]int{{1, 1}, {2, 0}}, true},
		{end, 1, 3, [][]int{{2, 0}, {2, 1}}, false},
		{end, 1, 1, nil, false},
		{end, 2, 2, [][]int{{1, 1, 1}}, true},
		{end, 2, 2, [][]int{{1, 1}}, false},
		{end, 2, 2, [][]int{{1, 1, 1, 1}}, false},
		{long, 1, 4, [][]int{{1, 3}, {2, 2}, {3, 1}}, true},
		{long, 1, 4, [][]int{{3, 1}, {2, 2}, {1, 3}}, false},
		{long, 1, 4, [][]int{{2, 2}, {2, 3}, {3, 1}}, false},
		{long, 1, 4, [][]int{{1, 3}, {3, 1}, {3, 2}}, false},
		{long, 1, 4, [][]int{{1, 2}, {1, 3}, {3, 1}}, false},
		{long, 1, 4, [][]int{{1, 3}, {2, 2}, {2, 3}, {3, 1}, {3, 2}, {3, 3}}, true},
		{long, 1, 4, [][]int{{2, 2}, {3, 1}, {3, 3}}, false},
		{long, 1, 3, [][]int{{1, 3}, {2, 2}, {3, 1}}, false},
		{long, 1, 3, [][]int{{1, 3}, {2, 2}}, false},
		{fork, 1, 3, [][]int{{1, 1}, {1, 3}, {2, 2}}, true},
		{fork, 1, 3, [][]int{{1, 1}, {2, 2}, {2, 3}}, false},
		{fork, 1, 3, [][]int{{1, 3}, {2, 2}}, false},
		{fork, 1, 3, [][]int{{1, 1}, {2, 2}}, false},
		{fork, 1, 3, [][]int{{1, 1}, {1, 3}}, false},
		{fork, 1, 4, [][]int{{1, 1}, {1, 3}, {3, 2}}, true},
		{fork, 1, 4, [][]int{{2, 1}, {2, 3}, {3, 2}}, true},
		{fork, 1, 2, [][]int{{1, 1}, {1, 3}}, false},
		{tiles("0110"), 2, 1, nil, true},
		{tiles("0110"), 2, 1, [][]int{{1, 1, 1}}, false},
		{tiles("0110"), 2, 4, nil, true},
		{tiles("0110"), 2, 4, [][]int{{1, 1, 1}}, true},
		{tiles("0110"), 2, 4, [][]int{{1, 0, 0}}, true},
		{tiles("0000"), 1, 1, nil, false},
		{tiles("0000"), 1, 4, [][]int{{1, 0}, {2, 0}, {3, 0}}, false},
		{tiles("0000"), 1, 4, [][]int{{3, 0}}, false},
	} {
		if got, e := wang.Refutes(c.set, c.w, c.h, c.proof); got != c.want || e != api.OK {
			t.Errorf("%v, %d by %d: Refutes of %v is %t, %d, want %t", c.set, c.w, c.h, c.proof, got, e, c.want)
		}
	}
}

// slowRefutes reads a proof as the chapter says. lines are all rows of w tiles.
func slowRefutes(lines []line, w, h int, proof [][]int) bool {
	stands := func(list []int, below int) bool {
		return slices.ContainsFunc(proof, func(claim []int) bool { return claim[0] < below && slices.Equal(claim[1:], list) })
	}
	for i, claim := range proof {
		if len(claim) != w+1 || claim[0] < 1 || claim[0] > h-1 || slices.Min(claim[1:]) < 0 || slices.Max(claim[1:]) > 7 {
			return false
		}
		if i > 0 && slices.Compare(claim, proof[i-1]) < 1 {
			return false
		}
	}
	for _, claim := range proof {
		for _, l := range lines {
			if slices.Equal(l.north, claim[1:]) && (claim[0] == 1 || !stands(l.south, claim[0])) {
				return false
			}
		}
	}
	return !slices.ContainsFunc(lines, func(l line) bool { return !stands(l.south, h) })
}

// checkProof compares what both say of a proof.
func checkProof(t *testing.T, set []api.Wang, lines []line, w, h int, proof [][]int) bool {
	t.Helper()
	want := slowRefutes(lines, w, h, proof)
	got, e := wang.Refutes(set, w, h, proof)
	if got != want || e != api.OK {
		t.Errorf("%v, %d by %d: Refutes of %.300v is %t, %d, want %t", set, w, h, proof, got, e, want)
	}
	return got
}

// refusable are sets many of which cannot fill boards of all sizes.
func refusable(seed int64, count int) [][]api.Wang {
	r := rand.New(rand.NewSource(seed))
	all := lightSets(seed+1, count)
	for range count {
		all = append(all, fallingSet(r, 1+r.Intn(10), 2+r.Intn(4), 1+r.Intn(2)))
	}
	return all
}

func TestRefuteExamples(t *testing.T) {
	for _, c := range []struct {
		set  []api.Wang
		w, h int
		want [][]int
	}{
		{tiles("0010"), 1, 2, [][]int{{1, 1}}},
		{tiles("0010"), 2, 2, [][]int{{1, 1, 1}}},
		{tiles("0110"), 2, 1, nil},
		{tiles("0110"), 2, 3, nil},
		{stairs(3), 1, 4, [][]int{{1, 3}, {2, 2}, {3, 1}}},
	} {
		if got, e := wang.Refute(c.set, c.w, c.h); !areSame(got, c.want) || e != api.OK {
			t.Errorf("%v: Refute of %d by %d is %v, %d, want %v", c.set, c.w, c.h, got, e, c.want)
		}
	}
	for _, set := range [][]api.Wang{tiles("0000"), free(), notPeriodic(), stairs(4), columns(8, 2)} {
		eachSize(func(w, h int) {
			if got, e := wang.Refute(set, w, h); len(got) != 0 || e != api.ErrPlan {
				t.Errorf("%v: Refute of %d by %d is %v, %d, want ErrPlan", set, w, h, got, e)
			}
		})
	}
}

// TestRefuteOrFill: just one of them succeeds, and the proof is right.
func TestRefuteOrFill(t *testing.T) {
	refused := map[[2]int]int{}
	for _, set := range refusable(10, 150) {
		eachSize(func(w, h int) {
			proof, e := wang.Refute(set, w, h)
			_, f := wang.Fill(set, w, h)
			if e == f || e != api.OK && e != api.ErrPlan || f != api.OK && f != api.ErrPlan || e != api.OK && len(proof) > 0 {
				t.Errorf("%v: %d by %d: Fill is %d, and Refute %v, %d", set, w, h, f, proof, e)
			}
			if e != api.OK {
				return
			}
			refused[[2]int{w, h}]++
			if ok, g := wang.Refutes(set, w, h, proof); !ok || g != api.OK {
				t.Errorf("%v: %d by %d: Refute is %v, which Refutes says is %t, %d", set, w, h, proof, ok, g)
			}
			if lines := slowLines(set, w); len(lines) < 500 && !slowRefutes(lines, w, h, proof) {
				t.Errorf("%v: %d by %d: Refute is %v", set, w, h, proof)
			}
			seen := map[[api.MaxBoard]int]bool{}
			for _, claim := range proof {
				seen[[api.MaxBoard]int(append(claim[1:], 0, 0, 0))] = true
			}
			if len(seen) != len(proof) {
				t.Errorf("%v: %d by %d: Refute names some colours twice: %v", set, w, h, proof)
			}
		})
	}
	eachSize(func(w, h int) {
		if refused[[2]int{w, h}] < 10 && w*h > 1 {
			t.Errorf("%d by %d was refused %d times", w, h, refused[[2]int{w, h}])
		}
	})
}

// TestNoLargerBoards: where there is no board, there is no larger one, in any of both directions.
func TestNoLargerBoards(t *testing.T) {
	for _, set := range refusable(12, 100) {
		eachSize(func(w, h int) {
			_, e := wang.Fill(set, w, h)
			_, wider := wang.Fill(set, w+1, h)
			_, higher := wang.Fill(set, w, h+1)
			if e == api.ErrPlan && (wider == api.OK || higher == api.OK) {
				t.Errorf("%v: no board of %d by %d, but wider %d, higher %d", set, w, h, wider, higher)
			}
		})
	}
}

// trueClaims are all that hold: for each list of colours, each height that no board below them has.
func trueClaims(lines []line, w, h int) [][]int {
	var all, claims [][]int
	eachList(8, w, func(list []int) { all = append(all, list) })
	dead := map[[api.MaxBoard]int]bool{}
	key := func(list []int) [api.MaxBoard]int { return [api.MaxBoard]int(append(slices.Clip(list), 0, 0, 0)) }
	for k := 1; k < h; k++ {
		alive := map[[api.MaxBoard]int]bool{}
		for _, l := range lines {
			if k == 1 || !dead[key(l.south)] {
				alive[key(l.north)] = true
			}
		}
		for _, list := range all {
			if !alive[key(list)] {
				claims = append(claims, append([]int{k}, list...))
			}
		}
		dead = map[[api.MaxBoard]int]bool{}
		for _, list := range all {
			dead[key(list)] = !alive[key(list)]
		}
	}
	return claims
}

// TestAllTrueClaims are a proof if there is one; up to 12288 lists.
func TestAllTrueClaims(t *testing.T) {
	for _, set := range refusable(14, 40) {
		eachSize(func(w, h int) {
			lines := slowLines(set, w)
			if w == 4 && len(set)%4 > 0 || len(lines) > 3000 {
				return
			}
			_, e := wang.Fill(set, w, h)
			claims := trueClaims(lines, w, h)
			if got, f := wang.Refutes(set, w, h, claims); got != (e == api.ErrPlan) || f != api.OK {
				t.Errorf("%v: %d by %d: Fill is %d, and Refutes of all true claims %t, %d", set, w, h, e, got, f)
			}
		})
	}
}

// TestSpoiledProofs leaves a claim out, changes a number, doubles or exchanges claims, or adds some that may be true.
func TestSpoiledProofs(t *testing.T) {
	r := rand.New(rand.NewSource(16))
	right, wrong := 0, 0
	for _, set := range refusable(17, 80) {
		eachSize(func(w, h int) {
			proof, e := wang.Refute(set, w, h)
			lines := slowLines(set, w)
			if e != api.OK || len(lines) > 200 {
				return
			}
			for _, other := range spoiled(r, proof, trueClaims(lines, min(w, 2), h), w, h) {
				if checkProof(t, set, lines, w, h, other) {
					right++
				} else {
					wrong++
				}
			}
		})
	}
	if right < 1000 || wrong < 1000 {
		t.Errorf("%d right, %d wrong", right, wrong)
	}
}

func spoiled(r *rand.Rand, proof, claims [][]int, w, h int) [][][]int {
	clone := func() [][]int {
		var list [][]int
		for _, claim := range proof {
			list = append(list, slices.Clone(claim))
		}
		return list
	}
	all := [][][]int{clone()}
	for range 12 {
		more := clone()
		for range 1 + r.Intn(3) { // also such as never occur, and true ones
			claim := make([]int, w+1)
			for i := range claim {
				claim[i] = r.Intn(4)
			}
			claim[0] = 1 + r.Intn(h)
			if w <= 2 && len(claims) > 0 && r.Intn(2) == 0 {
				claim = claims[r.Intn(len(claims))]
			}
			more = append(more, claim)
		}
		all = append(all, inOrder(more), more)
		if len(proof) == 0 {
			continue
		}
		i, j, k := r.Intn(len(proof)), r.Intn(len(proof)), r.Intn(w+1)
		less, changed, exchanged, twice := clone(), clone(), clone(), clone()
		less = slices.Delete(less, i, i+1)
		changed[i][k] += []int{-1, 1, 2, 8}[r.Intn(4)]
		exchanged[i], exchanged[j] = exchanged[j], exchanged[i]
		twice = slices.Insert(twice, i, twice[i])
		short := clone()
		short[i] = short[i][:k]
		higher := clone()
		higher[i][0] = 1 + r.Intn(h)
		all = append(all, less, changed, inOrder(changed), exchanged, twice, short, inOrder(higher), inOrder(append(clone(), higher[i])))
	}
	return all
}

// TestRefutesIsNeverWrong: lists that are no proofs of a board that there is are not taken for one.
func TestRefutesIsNeverWrong(t *testing.T) {
	r := rand.New(rand.NewSource(18))
	for _, set := range append(handMade(), randomSets(19, 60)...) {
		for w := 1; w <= 2; w++ {
			lines := slowLines(set, w)
			for h := 1; h <= 4; h++ {
				_, e := wang.Fill(set, w, h)
				for range 10 {
					var proof [][]int
					eachList(8, w, func(list []int) {
						if r.Intn(8) < 7 && h > 1 {
							proof = append(proof, append([]int{1 + r.Intn(h-1)}, list...))
						}
					})
					if checkProof(t, set, lines, w, h, inOrder(proof)) && e != api.ErrPlan {
						t.Errorf("%v: %d by %d: Fill is %d, but it is refused by %v", set, w, h, e, proof)
					}
				}
			}
		}
	}
}

func TestRefutesLimit(t *testing.T) {
	set := tiles("0010")
	for _, c := range []struct {
		length int
		errno  api.Errno
	}{{65534, api.OK}, {65535, api.OK}, {65536, api.ErrLimit}, {65537, api.ErrLimit}, {200000, api.ErrLimit}} {
		for _, claim := range [][]int{nil, {1, 1}, {9, 9}} {
			proof := slices.Repeat([][]int{claim}, c.length)
			if got, e := wang.Refutes(set, 1, 2, proof); got || e != c.errno {
				t.Errorf("%d lists: %t, %d, want %d", c.length, got, e, c.errno)
			}
			if got, e := wang.Refutes(set, 1, 5, proof); got || e != api.ErrArg {
				t.Errorf("%d lists, no measures: %t, %d, want ErrArg", c.length, got, e)
			}
			if got, e := wang.Refutes(nil, 1, 2, proof); got || e != api.ErrArg {
				t.Errorf("%d lists, no set: %t, %d, want ErrArg", c.length, got, e)
			}
		}
	}
}
