package domino

// count goes through the cells in reading order. It keeps for each set of cells that may be left to cover in how many
// ways that comes about; only cells within a row of the current one differ between these sets, so they stay few.
func count(s set) int {
	ways := map[set]int{s: 1}
	for _, c := range s.singles() {
		next := map[set]int{}
		for rest, n := range ways {
			if rest&c == 0 {
				next[rest] += n
				continue
			}
			for _, second := range []set{right(c), below(c)} {
				if rest&second != 0 {
					next[rest&^(c|second)] += n
				}
			}
		}
		ways = next
	}
	return ways[0]
}
