package tests

import (
	"slices"
	"testing"

	"loop.example/g01329/impl"
)

// matchingCall calls a function of chapter 4 with a graph and a list, and tells its code and whether its
// other result is the zero value.
type matchingCall struct {
	name string
	run  func(g impl.Graph, list []int64) (int64, bool)
}

// matchingCalls are the functions that have a matching.
func matchingCalls() []matchingCall {
	return []matchingCall{
		{"CyclesLeft", func(g impl.Graph, list []int64) (int64, bool) {
			lengths, code := impl.CyclesLeft(g, list)
			return code, len(lengths) == 0
		}},
		{"ColouringOf", func(g impl.Graph, list []int64) (int64, bool) {
			c, code := impl.ColouringOf(g, list)
			return code, len(c) == 0
		}},
	}
}

// listOfMatchingsCalls are the functions that have no list, or accept all lists.
func listOfMatchingsCalls() []matchingCall {
	return []matchingCall{
		{"IsMatching", func(g impl.Graph, list []int64) (int64, bool) {
			yes, code := impl.IsMatching(g, list)
			return code, !yes
		}},
		{"CountMatchings", func(g impl.Graph, list []int64) (int64, bool) {
			count, code := impl.CountMatchings(g)
			return code, count == 0
		}},
		{"MatchingsOf", func(g impl.Graph, list []int64) (int64, bool) {
			all, code := impl.MatchingsOf(g)
			return code, len(all) == 0
		}},
		{"OddnessOf", func(g impl.Graph, list []int64) (int64, bool) {
			odd, code := impl.OddnessOf(g)
			return code, odd == 0
		}},
		{"BestMatching", func(g impl.Graph, list []int64) (int64, bool) {
			best, code := impl.BestMatching(g)
			return code, len(best) == 0
		}},
		{"CoverNumber", func(g impl.Graph, list []int64) (int64, bool) {
			cover, code := impl.CoverNumber(g)
			return code, cover == 0
		}},
		{"FreeEdges", func(g impl.Graph, list []int64) (int64, bool) {
			free, code := impl.FreeEdges(g)
			return code, len(free) == 0
		}},
	}
}

func allMatchingCalls() []matchingCall {
	return append(matchingCalls(), listOfMatchingsCalls()...)
}

// numbersOfNoEdges are numbers that no edge of a graph with m edges has.
func numbersOfNoEdges(m int64) []int64 {
	return []int64{-1 << 63, -m, -2, -1, m, m + 1, 2 * m, 1 << 32, 1<<63 - 1}
}

// What is not a graph is told before what is no matching and no edge.
func TestMatchingsOfNoGraphs(t *testing.T) {
	for _, bad := range badGraphs() {
		for _, list := range [][]int64{nil, {0}, {0, 5}, {5, 0}, {0, 0}, {-1}, {40}, {1<<63 - 1}, {0, 1, 2}} {
			for _, call := range allMatchingCalls() {
				if code, zero := call.run(bad.g, list); code != impl.ErrInvalid || !zero {
					t.Errorf("%s: %s with %v: code %d, zero %v", bad.why, call.name, list, code, zero)
				}
			}
		}
		for _, e := range append(numbersOfNoEdges(6), 0, 1, 5) {
			if count, code := impl.MatchingsWith(bad.g, e); count != 0 || code != impl.ErrInvalid {
				t.Errorf("%s: MatchingsWith %d = %d, %d", bad.why, e, count, code)
			}
		}
	}
	// Many matchings, and none, come behind that too.
	for _, g := range []impl.Graph{thetas(t, 10), parsed(t, threeBridges)} {
		g = copyGraph(g)
		slices.Reverse(g.Edges)
		for _, call := range allMatchingCalls() {
			if code, zero := call.run(g, nil); code != impl.ErrInvalid || !zero {
				t.Errorf("%s(%v): code %d, zero %v", call.name, g, code, zero)
			}
		}
	}
}

// noMatchings returns lists that are none, most of them made of a matching by one change.
func noMatchings(m int64, matching []int64) [][]int64 {
	last := len(matching) - 1
	turned := slices.Clone(matching)
	slices.Reverse(turned)
	lists := append(noSets(m), nil, []int64{}, matching[:last], matching[1:], append(slices.Clone(matching), matching[last]),
		append(slices.Clone(matching), m-1), append([]int64{0}, matching...), slices.Concat(matching, matching), slices.Repeat(matching[:1], last+2))
	if last > 0 {
		lists = append(lists, turned, slices.Repeat(matching[:1], last+1), append(slices.Clone(matching[:last]), matching[last-1]))
	}
	for i := range matching {
		for _, x := range append(numbersOfNoEdges(m), matching[(i+1)%len(matching)]) {
			list := slices.Clone(matching)
			list[i] = x
			if !slices.Equal(list, matching) {
				lists = append(lists, list)
			}
		}
	}
	return lists
}

func TestListsThatAreNoMatchings(t *testing.T) {
	graphs := []impl.Graph{named(t, "theta"), named(t, "k4"), named(t, "prism"), named(t, "petersen"), named(t, "bridge"),
		thetas(t, 3), thetas(t, 10), cubicRing(20), cubicLadder(20), parsed(t, rowOfBridges)}
	for _, g := range graphs {
		best, code := impl.BestMatching(g)
		if code != impl.ErrNone {
			t.Fatalf("BestMatching(%v): code %d", g, code)
		}
		for _, list := range noMatchings(int64(len(g.Edges)), best) {
			for _, call := range matchingCalls() {
				if code, zero := call.run(g, list); code != impl.ErrRange || !zero {
					t.Errorf("%s(%v, %v): code %d, zero %v", call.name, g, list, code, zero)
				}
			}
			if yes, code := impl.IsMatching(g, list); yes || code != impl.ErrNone {
				t.Errorf("IsMatching(%v, %v) = %v, %d", g, list, yes, code)
			}
		}
	}
}

// Where there is no matching, no list is one.
func TestListsWhereNoMatchingIs(t *testing.T) {
	g := parsed(t, threeBridges)
	for _, list := range [][]int64{nil, {0, 3, 4, 7, 11}, {0, 5, 9, 13}, {0, 1, 5, 9, 13}, {0, 5, 7, 9, 13}} {
		for _, call := range matchingCalls() {
			if code, zero := call.run(g, list); code != impl.ErrRange || !zero {
				t.Errorf("%s(%v): code %d, zero %v", call.name, list, code, zero)
			}
		}
		if yes, code := impl.IsMatching(g, list); yes || code != impl.ErrNone {
			t.Errorf("IsMatching(%v) = %v, %d", list, yes, code)
		}
	}
}

func TestNumbersThatNoEdgeHas(t *testing.T) {
	for _, g := range goodGraphs(t) {
		m := int64(len(g.Edges))
		for _, e := range numbersOfNoEdges(m) {
			if count, code := impl.MatchingsWith(g, e); count != 0 || code != impl.ErrRange {
				t.Errorf("MatchingsWith(%v, %d) = %d, %d", g, e, count, code)
			}
		}
		for _, e := range []int64{0, m - 1} {
			if _, code := impl.MatchingsWith(g, e); code != impl.ErrNone {
				t.Errorf("MatchingsWith(%v, %d): code %d", g, e, code)
			}
		}
	}
}

func TestMatchingsLeaveArgumentsAsTheyAre(t *testing.T) {
	for _, g := range goodGraphs(t) {
		best, code := impl.BestMatching(g)
		if code != impl.ErrNone {
			continue
		}
		list, all := behind(best)
		edges := append(slices.Clone(g.Edges), impl.Edge{9, 8})
		before, numbers := slices.Clone(edges), slices.Clone(all)
		h := impl.Graph{Size: g.Size, Edges: edges[:len(g.Edges)]}
		for _, call := range allMatchingCalls() {
			call.run(h, list)
		}
		impl.MatchingsWith(h, 0)
		matchings, _ := impl.MatchingsOf(h)
		again, _ := impl.BestMatching(h)
		lengths, _ := impl.CyclesLeft(h, list)
		c, _ := impl.ColouringOf(h, list)
		free, _ := impl.FreeEdges(h)
		for _, made := range append(matchings, again, lengths, c, free) {
			fill(made)
		}
		if !slices.Equal(edges, before) || !slices.Equal(all, numbers) {
			t.Fatalf("%v: %v, %v", g, edges, all)
		}
	}
}

func TestMatchingsShareNoMemory(t *testing.T) {
	for _, g := range []impl.Graph{named(t, "theta"), named(t, "k4"), named(t, "bridge"), thetas(t, 3), cubicLadder(10), named(t, "cube")} {
		checkApart(t, func() [][]int64 {
			list, _ := impl.MatchingsOf(g)
			return list
		})
		checkApart(t, func() [][]int64 {
			list, _ := impl.MatchingsOf(g)
			best, _ := impl.BestMatching(g)
			return append(list, best)
		})
		best, _ := impl.BestMatching(g)
		checkApart(t, func() [][]int64 {
			lengths, _ := impl.CyclesLeft(g, best)
			c, _ := impl.ColouringOf(g, best)
			free, _ := impl.FreeEdges(g)
			return [][]int64{lengths, c, free}
		})
	}
}
