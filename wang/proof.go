package wang

import (
	"slices"
)

// proof returns, if there is no good board of h rows, a claim for each list of Souths of a row: with the least height
// that there is no good board of. What follows below it has less rows left, and so has a lesser height.
func (b band) proof(h int) [][]int {
	ways := b.ways(h)
	_, up := b.links()
	var proof [][]int
	for k := 1; k < h; k++ {
		for code, rows := range up {
			if len(rows) > 0 && ways[k][code] == 0 && ways[k-1][code] > 0 {
				proof = append(proof, slices.Concat([]int{k}, listOf(code, b.w)))
			}
		}
	}
	return proof
}

// areClaims tells whether the lists of a proof have the form of claims, and their order.
func areClaims(proof [][]int, w, h int) bool {
	for i, claim := range proof {
		if len(claim) != w+1 || claim[0] < 1 || claim[0] >= h || slices.ContainsFunc(claim[1:], isNoColour) {
			return false
		}
		if i > 0 && slices.Compare(proof[i-1], claim) >= 0 {
			return false
		}
	}
	return true
}

// isProof tells whether there is a claim for whatever is below a row, and whether each claim follows from others with
// lesser heights. Of several claims for the same colours it looks for the one with the least height: the first one.
func (b band) isProof(claims [][]int) bool {
	heights := make([]int, codes(b.w))
	for _, claim := range claims {
		if code := codeOf(claim[1:]); heights[code] == 0 {
			heights[code] = claim[0]
		}
	}
	down, up := b.links()
	for code, rows := range up {
		if len(rows) > 0 && heights[code] == 0 {
			return false
		}
	}
	for _, claim := range claims {
		tooHigh := func(south int) bool { return heights[south] >= claim[0] }
		if slices.ContainsFunc(down[codeOf(claim[1:])], tooHigh) {
			return false
		}
	}
	return true
}
