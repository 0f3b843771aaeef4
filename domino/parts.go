package domino

// split returns the parts of s, in the reading order of their first cells, between which no steps lead; step gives the
// cells that are a step away from those of a set.
func split(s set, step func(set) set) []set {
	var parts []set
	for s != 0 {
		part := spread(s.first(), s, step)
		parts = append(parts, part)
		s &^= part
	}
	return parts
}

// spread returns the cells of s that steps within s lead to from those of part.
func spread(part, s set, step func(set) set) set {
	for {
		more := part | step(part)&s
		if more == part {
			return part
		}
		part = more
	}
}

// holes leaves out the parts that come to the rim of the rectangle: they are connected with the outside.
func holes(g region) int {
	n, rim := 0, g.rim()
	for _, part := range split(g.gaps, around) {
		if part&rim == 0 {
			n++
		}
	}
	return n
}
