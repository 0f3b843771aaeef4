package wang

import (
	"slices"

	"encaustic/api"
)

// colours is how many colours there are.
const colours = api.MaxColour + 1

// isTask tells whether there are boards of w by h, good or not, of a set.
func isTask(set []api.Wang, w, h int) bool {
	return isSet(set) && isMeasure(w) && isMeasure(h)
}

func isSet(set []api.Wang) bool {
	if len(set) < 1 || len(set) > api.MaxSet {
		return false
	}
	for i, t := range set {
		if slices.ContainsFunc([]int{t.North, t.East, t.South, t.West}, isNoColour) || slices.Contains(set[:i], t) {
			return false
		}
	}
	return true
}

func isMeasure(n int) bool { return 1 <= n && n <= api.MaxBoard }

func isNoColour(n int) bool { return n < 0 || n >= colours }
