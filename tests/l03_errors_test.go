package tests

import (
	"slices"
	"testing"

	"loop.example/g01329/impl"
)

// cutCall calls a function of chapter 3 with a graph and a set, and tells its code and whether its
// other results are zero values.
type cutCall struct {
	name string
	run  func(g impl.Graph, set []int64) (int64, bool)
}

// edgeSetCalls are the functions that have a set of edges.
func edgeSetCalls() []cutCall {
	return []cutCall{
		{"SidesOf", func(g impl.Graph, set []int64) (int64, bool) {
			sides, code := impl.SidesOf(g, set)
			return code, len(sides) == 0
		}},
		{"IsEdgeCut", func(g impl.Graph, set []int64) (int64, bool) {
			yes, code := impl.IsEdgeCut(g, set)
			return code, !yes
		}},
		{"IsBond", func(g impl.Graph, set []int64) (int64, bool) {
			yes, code := impl.IsBond(g, set)
			return code, !yes
		}},
		{"IsCyclicCut", func(g impl.Graph, set []int64) (int64, bool) {
			yes, code := impl.IsCyclicCut(g, set)
			return code, !yes
		}},
		{"CountSides", func(g impl.Graph, set []int64) (int64, bool) {
			sides, cyclic, code := impl.CountSides(g, set)
			return code, sides == 0 && cyclic == 0
		}},
	}
}

func edgesLeavingCall() cutCall {
	return cutCall{"EdgesLeaving", func(g impl.Graph, set []int64) (int64, bool) {
		list, code := impl.EdgesLeaving(g, set)
		return code, len(list) == 0
	}}
}

// connectedCalls are the functions that need a connected graph.
func connectedCalls() []cutCall {
	return []cutCall{
		{"EdgeConnectivity", func(g impl.Graph, set []int64) (int64, bool) {
			k, code := impl.EdgeConnectivity(g)
			return code, k == 0
		}},
		{"CyclicConnectivity", func(g impl.Graph, set []int64) (int64, bool) {
			k, code := impl.CyclicConnectivity(g)
			return code, k == 0
		}},
	}
}

func cutCalls() []cutCall {
	calls := append(edgeSetCalls(), edgesLeavingCall())
	calls = append(calls, connectedCalls()...)
	calls = append(calls, cutCall{"BridgesOf", func(g impl.Graph, set []int64) (int64, bool) {
		list, code := impl.BridgesOf(g)
		return code, len(list) == 0
	}})
	for _, k := range sizesOfBonds() {
		calls = append(calls, cutCall{"BondsOfSize", func(g impl.Graph, set []int64) (int64, bool) {
			list, code := impl.BondsOfSize(g, k)
			return code, len(list) == 0
		}})
	}
	return calls
}

// sizesOfBonds are numbers of edges, permitted and not.
func sizesOfBonds() []int64 {
	return []int64{-1 << 63, -4, -1, 0, 1, 2, 3, 4, 5, 6, 1<<63 - 1}
}

// What is not a graph is told before sets and numbers that are not as told, and before parts.
func TestCutsOfNoGraphs(t *testing.T) {
	for _, bad := range badGraphs() {
		for _, set := range [][]int64{nil, {0}, {0, 1}, {1, 0}, {0, 0}, {-1}, {40}, {1<<63 - 1}} {
			for _, call := range cutCalls() {
				if code, zero := call.run(bad.g, set); code != impl.ErrInvalid || !zero {
					t.Errorf("%s: %s with %v: code %d, zero %v", bad.why, call.name, set, code, zero)
				}
			}
		}
	}
	// It would not be connected either.
	two := thetas(t, 2)
	two.Edges[0], two.Edges[5] = two.Edges[5], two.Edges[0]
	for _, call := range cutCalls() {
		if code, zero := call.run(two, nil); code != impl.ErrInvalid || !zero {
			t.Errorf("%s: code %d, zero %v", call.name, code, zero)
		}
	}
}

// noSets returns lists that are no sets of the numbers 0 to n - 1.
func noSets(n int64) [][]int64 {
	all := listOf(1<<n - 1)
	twice := append(slices.Clone(all), n-1)
	turned := slices.Clone(all)
	slices.Reverse(turned)
	return [][]int64{
		{-1}, {n}, {n + 1}, {-1, 0}, {0, n}, {n - 1, n}, {1<<63 - 1}, {-1 << 63}, {0, 1<<63 - 1}, {-1 << 63, 0},
		{0, 0}, {n - 1, n - 1}, {1, 0}, {n - 1, 0}, {0, 1, 1}, {0, 0, 1}, {0, 1, 0},
		turned, twice, append(slices.Clone(all), n), append([]int64{-1}, all...), append(slices.Clone(all), 0),
	}
}

func TestListsThatAreNoSets(t *testing.T) {
	graphs := []impl.Graph{named(t, "theta"), named(t, "k4"), named(t, "petersen"), named(t, "bridge"),
		thetas(t, 3), cubicRing(20), cubicLadder(20)}
	for _, g := range graphs {
		for _, set := range noSets(int64(len(g.Edges))) {
			for _, call := range edgeSetCalls() {
				if code, zero := call.run(g, set); code != impl.ErrRange || !zero {
					t.Errorf("%s(%v, %v): code %d, zero %v", call.name, g, set, code, zero)
				}
			}
		}
		for _, set := range noSets(g.Size) {
			if code, zero := edgesLeavingCall().run(g, set); code != impl.ErrRange || !zero {
				t.Errorf("EdgesLeaving(%v, %v): code %d, zero %v", g, set, code, zero)
			}
		}
		// A number of an edge need not be one of a vertex.
		last := []int64{int64(len(g.Edges)) - 1}
		for _, call := range edgeSetCalls() {
			if code, _ := call.run(g, last); code != impl.ErrNone {
				t.Errorf("%s(%v, %v): code %d", call.name, g, last, code)
			}
		}
		if code, _ := edgesLeavingCall().run(g, last); code != impl.ErrRange {
			t.Errorf("EdgesLeaving(%v, %v): code %d", g, last, code)
		}
	}
}

func TestSizesThatNoBondHas(t *testing.T) {
	for _, g := range []impl.Graph{named(t, "theta"), named(t, "cube"), thetas(t, 2), named(t, "bridge")} {
		for _, k := range sizesOfBonds() {
			want := int64(impl.ErrNone)
			if k < 1 || k > impl.MaxCut {
				want = impl.ErrRange
			}
			list, code := impl.BondsOfSize(g, k)
			if code != want || code != impl.ErrNone && len(list) != 0 {
				t.Errorf("BondsOfSize(%v, %d) = %v, %d", g, k, list, code)
			}
		}
	}
}

func TestGraphsThatAreNotConnected(t *testing.T) {
	for _, g := range []impl.Graph{
		thetas(t, 2), thetas(t, 10), beside(t, named(t, "k4"), named(t, "k4")),
		beside(t, named(t, "petersen"), named(t, "petersen")), beside(t, named(t, "theta"), named(t, "bridge")),
	} {
		for _, call := range connectedCalls() {
			if code, zero := call.run(g, nil); code != impl.ErrState || !zero {
				t.Errorf("%s(%v): code %d, zero %v", call.name, g, code, zero)
			}
		}
	}
}

func TestCutsLeaveArgumentsAsTheyAre(t *testing.T) {
	for _, g := range goodGraphs(t) {
		if g.Size > 10 {
			continue
		}
		set, all := behind([]int64{0, g.Size - 1})
		edges := append(slices.Clone(g.Edges), impl.Edge{9, 8})
		before, numbers := slices.Clone(edges), slices.Clone(all)
		h := impl.Graph{Size: g.Size, Edges: edges[:len(g.Edges)]}
		for _, call := range cutCalls() {
			call.run(h, set)
		}
		sides, _ := impl.SidesOf(h, set)
		bonds, _ := impl.BondsOfSize(h, 3)
		leaving, _ := impl.EdgesLeaving(h, set)
		bridges, _ := impl.BridgesOf(h)
		for _, list := range slices.Concat(sides, bonds, [][]int64{leaving, bridges}) {
			fill(list)
		}
		if !slices.Equal(edges, before) || !slices.Equal(all, numbers) {
			t.Fatalf("%v: %v, %v", g, edges, all)
		}
	}
}

func TestCutsShareNoMemory(t *testing.T) {
	for _, g := range []impl.Graph{named(t, "k4"), named(t, "bridge"), thetas(t, 3), cubicLadder(10), named(t, "cube")} {
		out := allEdges(g)
		checkApart(t, func() [][]int64 {
			sides, _ := impl.SidesOf(g, out)
			return sides
		})
		checkApart(t, func() [][]int64 {
			sides, _ := impl.SidesOf(g, out[:2])
			return sides
		})
		for k := int64(1); k <= impl.MaxCut; k++ {
			checkApart(t, func() [][]int64 {
				bonds, _ := impl.BondsOfSize(g, k)
				return bonds
			})
		}
		checkApart(t, func() [][]int64 {
			bridges, _ := impl.BridgesOf(g)
			leaving, _ := impl.EdgesLeaving(g, []int64{0})
			return [][]int64{bridges, leaving}
		})
	}
}

// checkApart writes the lists that a call makes, one after the other, and looks whether that changes the
// ones behind it, or what the next call makes.
func checkApart(t *testing.T, call func() [][]int64) {
	t.Helper()
	want, made := call(), call()
	for i, list := range made {
		fill(list)
		if i+1 < len(made) && !sameParts(made[i+1:], want[i+1:]) {
			t.Fatalf("%d of %v changes others: %v", i, want, made)
		}
	}
	if again := call(); !sameParts(again, want) {
		t.Fatalf("%v is kept as %v", want, again)
	}
}
