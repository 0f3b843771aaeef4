package weight_test

// P5.1 (Puts, Turns).

import (
	"fmt"
	"math/rand"
	"reflect"
	"slices"
	"testing"

	"encaustic/api"
	"encaustic/weight"
)

func TestPutsExamples(t *testing.T) {
	for _, c := range []struct {
		p    problem
		want []api.Put
	}{
		{problem{[]string{"#"}, []api.Tile{tile(0, 0)}}, []api.Put{{}}},
		{problem{[]string{"#"}, dominoes()}, nil},
		{problem{rectangle(2, 2), dominoes()}, []api.Put{{Tile: 0}, {Tile: 1}, {Tile: 1, X: 1}, {Tile: 0, Y: 1}}},
		{problem{rectangle(2, 2), []api.Tile{dominoes()[1], dominoes()[0]}}, []api.Put{{Tile: 0}, {Tile: 1}, {Tile: 0, X: 1}, {Tile: 1, Y: 1}}},
		{problem{[]string{".##", "##."}, corners()}, []api.Put{{Tile: 0, X: 1}, {Tile: 2, X: 1}}},
		{problem{[]string{"..", ".#"}, []api.Tile{tile(0, 0)}}, []api.Put{{X: 1, Y: 1}}},
		{problem{[]string{"#.#.", "...."}, []api.Tile{tile(0, 0, 2, 0)}}, []api.Put{{}}},
		{problem{[]string{"...#", "#..."}, []api.Tile{tile(0, 0, -3, 1), tile(0, 0, 1, 0)}}, []api.Put{{X: 3}}},
		{problem{rectangle(4, 4), []api.Tile{tile(0, 0, 4, 0), tile(0, 0, 0, 4)}}, nil},
		{problem{rectangle(4, 4), []api.Tile{tile(0, 0, -3, 3), tile(0, 0, 3, 3)}}, []api.Put{{Tile: 1}, {Tile: 0, X: 3}}},
	} {
		if got, e := weight.Puts(c.p.r, c.p.tiles); !slices.Equal(got, c.want) || e != api.OK {
			t.Errorf("Puts(%q, %v) = %v, %d, want %v", c.p.r, c.p.tiles, got, e, c.want)
		}
	}
}

func TestPutsAreAllWays(t *testing.T) {
	for _, p := range allProblems() {
		if got, e := weight.Puts(p.r, p.tiles); !slices.Equal(got, slowPuts(p)) || e != api.OK {
			t.Errorf("Puts(%q, %v) = %v, %d, want %v", p.r, p.tiles, got, e, slowPuts(p))
		}
	}
}

func TestTurnsExamples(t *testing.T) {
	for _, c := range []struct {
		t    api.Tile
		want []api.Tile
	}{
		{tile(0, 0), []api.Tile{tile(0, 0)}},
		{tile(0, 0, 0, 1), dominoes()},
		{tile(0, 0, 1, 0, 0, 1, 1, 1), []api.Tile{tile(0, 0, 1, 0, 0, 1, 1, 1)}},
		{tile(0, 0, 1, 0, 0, 1), []api.Tile{corners()[0], corners()[1], corners()[2], corners()[3]}},
		{tile(0, 0, 1, 0, 1, 1, 2, 1), []api.Tile{
			tile(0, 0, 1, 0, -1, 1, 0, 1), tile(0, 0, 1, 0, 1, 1, 2, 1), tile(0, 0, -1, 1, 0, 1, -1, 2), tile(0, 0, 0, 1, 1, 1, 1, 2)}},
		{tile(0, 0, 0, 1, 0, 2, 1, 2), []api.Tile{
			tile(0, 0, 1, 0, 2, 0, 0, 1), tile(0, 0, 1, 0, 2, 0, 2, 1), tile(0, 0, 1, 0, 0, 1, 0, 2), tile(0, 0, 1, 0, 1, 1, 1, 2),
			tile(0, 0, -2, 1, -1, 1, 0, 1), tile(0, 0, 0, 1, 1, 1, 2, 1), tile(0, 0, 0, 1, -1, 2, 0, 2), tile(0, 0, 0, 1, 0, 2, 1, 2)}},
		{tile(0, 0, -4, 4), []api.Tile{tile(0, 0, -4, 4), tile(0, 0, 4, 4)}},
		// Some of these are not valid: they are too high or too wide.
		{tile(0, 0, -4, 1, 4, 1), []api.Tile{tile(0, 0, 8, 0, 4, 1), tile(0, 0, -4, 1, 4, 1), tile(0, 0, -1, 4, 0, 8), tile(0, 0, 1, 4, 0, 8)}},
	} {
		if got, e := weight.Turns(c.t); !reflect.DeepEqual(got, c.want) || e != api.OK {
			t.Errorf("Turns(%v) = %v, %d, want %v", c.t, got, e, c.want)
		}
	}
}

// slowTurns makes all X and Y what they are or their opposites, and exchanges X and Y or not.
func slowTurns(t api.Tile) []api.Tile {
	different := map[string]api.Tile{}
	for way := range 8 {
		next := slices.Clone(t)
		for i, c := range next {
			c.X *= 1 - way&2
			c.Y *= 1 - way>>1&2
			if way&1 == 1 {
				c.X, c.Y = c.Y, c.X
			}
			next[i] = c
		}
		next = inOrder(next)
		different[fmt.Sprint(next)] = next
	}
	var list []api.Tile
	for _, next := range different {
		list = append(list, next)
	}
	slices.SortFunc(list, func(a, b api.Tile) int { return slices.CompareFunc(a, b, readingOrder) })
	return list
}

// TestTurnsOfTiles: and those that are valid have the same Turns.
func TestTurnsOfTiles(t *testing.T) {
	random := rand.New(rand.NewSource(3))
	for range 3000 {
		given := randomTile(random)
		got, e := weight.Turns(given)
		if !reflect.DeepEqual(got, slowTurns(given)) || e != api.OK {
			t.Errorf("Turns(%v) = %v, %d, want %v", given, got, e, slowTurns(given))
		}
		for _, next := range got {
			want := api.OK
			if !isTile(next) {
				want = api.ErrArg
			}
			if again, e := weight.Turns(next); e != want || e == api.OK && !reflect.DeepEqual(again, got) {
				t.Errorf("Turns(%v) = %v, %d, and of %v %v", next, again, e, given, got)
			}
		}
	}
}

// isTile is the definition.
func isTile(t api.Tile) bool {
	if len(t) < 1 || len(t) > 5 || t[0] != (api.Cell{}) {
		return false
	}
	for i, c := range t {
		if c.X < -4 || c.X > 4 || c.Y < 0 || c.Y > 4 || i > 0 && readingOrder(t[i-1], c) >= 0 {
			return false
		}
	}
	return true
}
