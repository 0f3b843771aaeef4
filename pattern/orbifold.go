package pattern

import (
	"encaustic/api"
)

// orbifold returns the orbifold of the group with the name; that of p1 has no features.
func orbifold(name string) api.Orbifold {
	switch name {
	case "p2":
		return api.Orbifold{Cones: []int{2, 2, 2, 2}}
	case "pm":
		return api.Orbifold{Mirrors: 2}
	case "pg":
		return api.Orbifold{Crosses: 2}
	case "cm":
		return api.Orbifold{Mirrors: 1, Crosses: 1}
	case "pmm":
		return api.Orbifold{Corners: []int{2, 2, 2, 2}, Mirrors: 1}
	case "pmg":
		return api.Orbifold{Cones: []int{2, 2}, Mirrors: 1}
	case "pgg":
		return api.Orbifold{Cones: []int{2, 2}, Crosses: 1}
	case "cmm":
		return api.Orbifold{Cones: []int{2}, Corners: []int{2, 2}, Mirrors: 1}
	case "p4":
		return api.Orbifold{Cones: []int{4, 4, 2}}
	case "p4m":
		return api.Orbifold{Corners: []int{4, 4, 2}, Mirrors: 1}
	case "p4g":
		return api.Orbifold{Cones: []int{4}, Corners: []int{2}, Mirrors: 1}
	}
	return api.Orbifold{}
}
