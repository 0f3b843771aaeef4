package wang

import (
	"slices"

	"encaustic/api"
)

// joined returns the tiles of a upon tiles of b, with codes of two colours as East and West, and these codes, ascending:
// so they are ordered as the pairs are.
func joined(a, b []api.Wang) ([]api.Wang, []int) {
	var set []api.Wang
	var pairs []int
	for _, s := range a {
		for _, t := range b {
			if s.South != t.North {
				continue
			}
			east, west := codeOf([]int{s.East, t.East}), codeOf([]int{s.West, t.West})
			pairs = append(pairs, east, west)
			tile := api.Wang{North: s.North, East: east, South: t.South, West: west}
			if !slices.Contains(set, tile) {
				set = append(set, tile)
			}
		}
	}
	slices.Sort(pairs)
	return set, slices.Compact(pairs)
}

// renamed is the set with the places of pairs instead of the pairs.
func renamed(set []api.Wang, pairs []int) []api.Wang {
	list := make([]api.Wang, len(set))
	for i, t := range set {
		t.East, t.West = slices.Index(pairs, t.East), slices.Index(pairs, t.West)
		list[i] = t
	}
	return list
}
