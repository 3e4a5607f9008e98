package tests

import (
	"slices"
	"testing"

	"loop.example/g01329/impl"
)

// colouringCall calls a function with a graph and a list in the place of each colouring, and tells its
// code and whether its other result is the zero value.
type colouringCall struct {
	name string
	run  func(g impl.Graph, c []int64) (int64, bool)
}

func colouringCalls() []colouringCall {
	return []colouringCall{
		{"AreAlike", func(g impl.Graph, c []int64) (int64, bool) {
			yes, code := impl.AreAlike(g, c, c)
			return code, !yes
		}},
		{"ChainOf", func(g impl.Graph, c []int64) (int64, bool) {
			list, code := impl.ChainOf(g, c, 0, 1)
			return code, len(list) == 0
		}},
		{"ExchangeChain", func(g impl.Graph, c []int64) (int64, bool) {
			list, code := impl.ExchangeChain(g, c, 0, 1)
			return code, len(list) == 0
		}},
		{"ChainNumbers", func(g impl.Graph, c []int64) (int64, bool) {
			list, code := impl.ChainNumbers(g, c)
			return code, len(list) == 0
		}},
		{"CountReached", func(g impl.Graph, c []int64) (int64, bool) {
			count, code := impl.CountReached(g, c)
			return code, count == 0
		}},
		{"CutNumbers", func(g impl.Graph, c []int64) (int64, bool) {
			list, code := impl.CutNumbers(g, c, []int64{0})
			return code, len(list) == 0
		}},
	}
}

// graphOnlyCalls are the functions of chapter 2 that accept all lists, or have no list.
func graphOnlyCalls() []colouringCall {
	return []colouringCall{
		{"IsColouring", func(g impl.Graph, c []int64) (int64, bool) {
			yes, code := impl.IsColouring(g, c)
			return code, !yes
		}},
		{"CountColourings", func(g impl.Graph, c []int64) (int64, bool) {
			count, code := impl.CountColourings(g)
			return code, count == 0
		}},
		{"HasColouring", func(g impl.Graph, c []int64) (int64, bool) {
			yes, code := impl.HasColouring(g)
			return code, !yes
		}},
		{"FirstColouring", func(g impl.Graph, c []int64) (int64, bool) {
			list, code := impl.FirstColouring(g)
			return code, len(list) == 0
		}},
		{"NormalColourings", func(g impl.Graph, c []int64) (int64, bool) {
			list, code := impl.NormalColourings(g)
			return code, len(list) == 0
		}},
	}
}

// What is not a graph is told before what is no colouring, no edge, no colour and no set.
func TestColouringsOfNoGraphs(t *testing.T) {
	for _, bad := range badGraphs() {
		lists := [][]int64{nil, {0, 1, 2}, {0, 1, 2, 2, 1, 0}, {7}, make([]int64, len(bad.g.Edges))}
		for _, c := range lists {
			for _, call := range append(colouringCalls(), graphOnlyCalls()...) {
				if code, zero := call.run(bad.g, c); code != impl.ErrInvalid || !zero {
					t.Errorf("%s: %s with %v: code %d, zero %v", bad.why, call.name, c, code, zero)
				}
			}
			checkInvalidNumbers(t, bad, c)
		}
	}
}

func checkInvalidNumbers(t *testing.T, bad badGraph, c []int64) {
	t.Helper()
	for _, x := range []int64{-1, 0, 30, -1 << 63, 1<<63 - 1} {
		chain, a := impl.ChainOf(bad.g, c, x, x)
		made, b := impl.ExchangeChain(bad.g, c, x, x)
		numbers, d := impl.CutNumbers(bad.g, c, []int64{x, x})
		if a != impl.ErrInvalid || b != impl.ErrInvalid || d != impl.ErrInvalid || len(chain)+len(made)+len(numbers) != 0 {
			t.Errorf("%s with %v and %d: %d, %d, %d", bad.why, c, x, a, b, d)
		}
	}
}

// spoiled returns lists that are no colourings, one of them made of c by a change at each place.
func spoiled(c []int64) [][]int64 {
	lists := [][]int64{nil, c[:len(c)-1], append(slices.Clone(c), c[0]), append(slices.Clone(c), 0, 1, 2), make([]int64, len(c))}
	for i := range c {
		for _, x := range []int64{-1, 3, (c[i] + 1) % 3, 1<<63 - 1, -1 << 63} {
			list := slices.Clone(c)
			list[i] = x
			lists = append(lists, list)
		}
	}
	return lists
}

func TestListsThatAreNoColourings(t *testing.T) {
	for _, g := range []impl.Graph{named(t, "theta"), named(t, "k4"), named(t, "cube"), thetas(t, 4), cubicLadder(20)} {
		for _, c := range spoiled(first(t, g)) {
			for _, call := range colouringCalls() {
				if code, zero := call.run(g, c); code != impl.ErrRange || !zero {
					t.Errorf("%s(%v, %v): code %d, zero %v", call.name, g, c, code, zero)
				}
			}
			good := first(t, g)
			ahead, a := impl.AreAlike(g, good, c)
			behind, b := impl.AreAlike(g, c, good)
			if ahead || behind || a != impl.ErrRange || b != impl.ErrRange {
				t.Errorf("AreAlike(%v) with %v: %v, %d, %v, %d", g, c, ahead, a, behind, b)
			}
		}
	}
	for _, name := range []string{"petersen", "tietze", "flower5", "bridge"} {
		g := named(t, name)
		for _, call := range colouringCalls() {
			if code, zero := call.run(g, make([]int64, len(g.Edges))); code != impl.ErrRange || !zero {
				t.Errorf("%s(%s): code %d, zero %v", call.name, name, code, zero)
			}
		}
	}
}

func TestChainErrors(t *testing.T) {
	g := named(t, "k4")
	c := []int64{0, 1, 2, 2, 1, 0}
	for _, x := range []struct{ e, b int64 }{
		{-1, 0}, {6, 0}, {7, 1}, {1<<63 - 1, 1}, {-1 << 63, 1},
		{0, -1}, {0, 3}, {0, 4}, {0, 1<<63 - 1}, {0, -1 << 63},
		{-1, -1}, {6, 3}, {1<<63 - 1, 1<<63 - 1},
		// The colour of e.
		{0, 0}, {1, 1}, {2, 2}, {3, 2}, {4, 1}, {5, 0},
	} {
		chain, a := impl.ChainOf(g, c, x.e, x.b)
		made, b := impl.ExchangeChain(g, c, x.e, x.b)
		if a != impl.ErrRange || b != impl.ErrRange || len(chain) != 0 || len(made) != 0 {
			t.Errorf("%d, %d: %v, %d, %v, %d", x.e, x.b, chain, a, made, b)
		}
	}
}

func TestCutNumbersErrors(t *testing.T) {
	g := named(t, "k4")
	for _, side := range [][]int64{
		{-1}, {4}, {5}, {-1, 0}, {3, 4}, {0, 0}, {3, 3}, {1, 0}, {0, 2, 1}, {0, 1, 1, 2}, {0, 1, 2, 3, 4},
		{0, 1, 2, 3, 3}, {3, 2, 1, 0}, {1<<63 - 1}, {-1 << 63}, {0, 1, 2, 0},
	} {
		numbers, code := impl.CutNumbers(g, []int64{0, 1, 2, 2, 1, 0}, side)
		if code != impl.ErrRange || len(numbers) != 0 {
			t.Errorf("CutNumbers(k4, %v) = %v, %d", side, numbers, code)
		}
	}
}

// behind returns a list with something behind it, and all of that.
func behind(list []int64) ([]int64, []int64) {
	all := append(slices.Clone(list), 77, 78, 79, 80)
	return all[:len(list)], all
}

func TestColouringsLeaveArgumentsAsTheyAre(t *testing.T) {
	for _, g := range colourable(t) {
		c, allNumbers := behind(first(t, g))
		side, allVertices := behind([]int64{0, g.Size - 1})
		edges := append(slices.Clone(g.Edges), impl.Edge{9, 8})
		before := []any{slices.Clone(edges), slices.Clone(allNumbers), slices.Clone(allVertices)}
		h := impl.Graph{Size: g.Size, Edges: edges[:len(g.Edges)]}
		for _, call := range append(colouringCalls(), graphOnlyCalls()...) {
			call.run(h, c)
		}
		chain, _ := impl.ChainOf(h, c, 0, (c[0]+1)%3)
		made, _ := impl.ExchangeChain(h, c, 0, (c[0]+1)%3)
		numbers, _ := impl.ChainNumbers(h, c)
		cut, _ := impl.CutNumbers(h, c, side)
		for _, list := range [][]int64{chain, made, numbers, cut} {
			fill(list)
		}
		if !slices.Equal(edges, before[0].([]impl.Edge)) || !slices.Equal(allNumbers, before[1].([]int64)) || !slices.Equal(allVertices, before[2].([]int64)) {
			t.Fatalf("%v: %v, %v, %v", g, edges, allNumbers, allVertices)
		}
	}
}

// fill writes all that belongs to a list, even behind it.
func fill(list []int64) {
	all := list[:cap(list)]
	for i := range all {
		all[i] = 99
	}
}

func TestColouringsShareNoMemory(t *testing.T) {
	for _, g := range []impl.Graph{named(t, "cube"), named(t, "k33"), cubicLadder(10), thetas(t, 3)} {
		want, _ := impl.NormalColourings(g)
		made, _ := impl.NormalColourings(g)
		for i := range made {
			fill(made[i])
			for j := i + 1; j < len(made); j++ {
				if !slices.Equal(made[j], want[j]) {
					t.Fatalf("%v: %d changes %d", g, i, j)
				}
			}
		}
		least := first(t, g)
		fill(least)
		again, _ := impl.NormalColourings(g)
		if !sameParts(again, want) || !slices.Equal(first(t, g), want[0]) {
			t.Fatalf("%v: something is kept", g)
		}
	}
}
