package tests

import (
	"slices"
	"testing"

	"loop.example/g01329/impl"
)

// A symmetryCall calls a function of chapter 10 with one or two graphs, and with what it has of a list and a vertex, and returns its
// code and whether its other result is the zero value.
type symmetryCall struct {
	name string
	run  func(g impl.Graph, h impl.Graph, x symmetryArguments) (int64, bool)
}

type symmetryArguments struct {
	list []int64
	v    int64
}

func leadsToCall() symmetryCall {
	return symmetryCall{"LeadsTo", func(g impl.Graph, h impl.Graph, x symmetryArguments) (int64, bool) {
		yes, code := impl.LeadsTo(g, h, x.list)
		return code, !yes
	}}
}

func stabiliserCall() symmetryCall {
	return symmetryCall{"StabiliserNumber", func(g impl.Graph, h impl.Graph, x symmetryArguments) (int64, bool) {
		n, code := impl.StabiliserNumber(g, x.v)
		return code, n == 0
	}}
}

// symmetryPairCalls are the functions that need two connected graphs.
func symmetryPairCalls() []symmetryCall {
	return []symmetryCall{
		{"FindRenumbering", func(g impl.Graph, h impl.Graph, x symmetryArguments) (int64, bool) {
			list, code := impl.FindRenumbering(g, h)
			return code, len(list) == 0
		}},
		{"AreIsomorphic", func(g impl.Graph, h impl.Graph, x symmetryArguments) (int64, bool) {
			yes, code := impl.AreIsomorphic(g, h)
			return code, !yes
		}},
	}
}

// listsOf makes a call of a function that returns lists for a graph.
func listsOf(name string, call func(g impl.Graph) ([][]int64, int64)) symmetryCall {
	return symmetryCall{name, func(g impl.Graph, h impl.Graph, x symmetryArguments) (int64, bool) {
		lists, code := call(g)
		return code, len(lists) == 0
	}}
}

// symmetryCalls are the functions that need one connected graph, which is the first one.
func symmetryCalls() []symmetryCall {
	return []symmetryCall{
		stabiliserCall(),
		{"CountAutomorphisms", func(g impl.Graph, h impl.Graph, x symmetryArguments) (int64, bool) {
			n, code := impl.CountAutomorphisms(g)
			return code, n == 0
		}},
		listsOf("AutomorphismsOf", impl.AutomorphismsOf),
		listsOf("VertexOrbits", impl.VertexOrbits),
		listsOf("EdgeOrbits", impl.EdgeOrbits),
	}
}

// checkSymmetry calls a function and looks at its code, and beside an error for the zero value.
func checkSymmetry(t *testing.T, call symmetryCall, g impl.Graph, h impl.Graph, x symmetryArguments, want int64) {
	t.Helper()
	if code, zero := call.run(g, h, x); code != want || code != impl.ErrNone && !zero {
		t.Fatalf("%s(%v, %v, %v): code %d, zero %v, not %d", call.name, g, h, x, code, zero, want)
	}
}

// symmetriesOfNone are lists and vertices that are right for small graphs, and those that are wrong for all.
func symmetriesOfNone() []symmetryArguments {
	return []symmetryArguments{{numbersUpTo(4), 0}, {numbersUpTo(2), 1}, {nil, -1}, {[]int64{0, 0}, 99}, {[]int64{-1, 4, 5, 6}, 4}, {numbersUpTo(21), -1 << 63}, {[]int64{1<<63 - 1}, 1<<63 - 1}}
}

// What is not a graph is told first, wherever it stands: before graphs that are not connected, Sizes that are different, lists and
// numbers that are wrong, and automorphisms that are too many.
func TestSymmetryOfNoGraphs(t *testing.T) {
	bad := badGraphs()
	for _, g := range []impl.Graph{thetas(t, 2), thetas(t, 10), parsed(t, heawood), parsed(t, hung768), named(t, "cube")} {
		g = copyGraph(g)
		slices.Reverse(g.Edges)
		bad = append(bad, badGraph{"edges out of order", g})
	}
	for _, bad := range bad {
		for _, x := range symmetriesOfNone() {
			for _, good := range []impl.Graph{named(t, "theta"), named(t, "k4"), cubicRing(20), thetas(t, 2), parsed(t, heawood)} {
				for _, call := range append(symmetryPairCalls(), leadsToCall()) {
					checkSymmetry(t, call, bad.g, good, x, impl.ErrInvalid)
					checkSymmetry(t, call, good, bad.g, x, impl.ErrInvalid)
				}
			}
			for _, call := range slices.Concat(symmetryPairCalls(), symmetryCalls(), []symmetryCall{leadsToCall()}) {
				checkSymmetry(t, call, bad.g, bad.g, x, impl.ErrInvalid)
			}
		}
	}
}

// graphsOfParts are graphs that are not connected.
func graphsOfParts(t *testing.T) []impl.Graph {
	t.Helper()
	k4, petersen := named(t, "k4"), named(t, "petersen")
	return []impl.Graph{thetas(t, 2), thetas(t, 10), beside(t, k4, k4), beside(t, named(t, "theta"), k4), beside(t, k4, named(t, "theta")), beside(t, petersen, petersen),
		shuffled(t, beside(t, k4, k4)), turned(t, beside(t, petersen, named(t, "bridge"))), beside(t, parsed(t, heawood), named(t, "k33"))}
}

// Graphs that are not connected are told before vertices out of their range, different Sizes, what is not isomorphic, and automorphisms
// that are too many. LeadsTo takes them.
func TestSymmetryOfGraphsThatAreNotConnected(t *testing.T) {
	for _, g := range graphsOfParts(t) {
		for _, x := range symmetriesOfNone() {
			for _, call := range symmetryCalls() {
				checkSymmetry(t, call, g, g, x, impl.ErrState)
			}
			for _, call := range symmetryPairCalls() {
				checkSymmetry(t, call, g, g, x, impl.ErrState)
				for _, good := range []impl.Graph{named(t, "theta"), cubicRing(4), cubicLadder(g.Size), cubicRing(20)} {
					checkSymmetry(t, call, g, good, x, impl.ErrState)
					checkSymmetry(t, call, good, g, x, impl.ErrState)
				}
			}
		}
		checkSymmetry(t, leadsToCall(), g, g, symmetryArguments{list: numbersUpTo(int(g.Size))}, impl.ErrNone)
		checkSymmetry(t, leadsToCall(), g, cubicLadder(g.Size), symmetryArguments{list: numbersUpTo(int(g.Size))}, impl.ErrNone)
	}
}

func TestGraphsOfDifferentSizes(t *testing.T) {
	graphs := append(graphsOfParts(t), named(t, "theta"), named(t, "k4"), named(t, "prism"), named(t, "cube"), cubicRing(18), cubicRing(20))
	for _, g := range graphs {
		for _, h := range graphs {
			want := int64(impl.ErrNone)
			if g.Size != h.Size {
				want = impl.ErrRange
			}
			checkSymmetry(t, leadsToCall(), g, h, symmetryArguments{list: numbersUpTo(int(g.Size))}, want)
			checkSymmetry(t, leadsToCall(), h, g, symmetryArguments{list: numbersUpTo(int(g.Size))}, want)
		}
	}
}

// noRenumberings are lists that are no renumberings of n vertices.
func noRenumberings(n int64) [][]int64 {
	all := numbersUpTo(int(n))
	lists := [][]int64{nil, {}, {0}, all[:n-1], all[1:], append(slices.Clone(all), n), append(slices.Clone(all), 0), append(slices.Clone(all), -1), slices.Concat(all, all)}
	for _, i := range []int64{0, n / 2, n - 1} {
		for _, x := range append(outside(n), all[(i+1)%n], all[(i+n-1)%n]) {
			list := slices.Clone(all)
			list[i] = x
			lists = append(lists, list)
		}
	}
	return lists
}

// Lists are looked at whether or not the graphs are isomorphic, and connected.
func TestListsThatAreNoRenumberings(t *testing.T) {
	for _, g := range append(graphsForErrors(t), graphsOfParts(t)...) {
		for _, list := range noRenumberings(g.Size) {
			for _, h := range []impl.Graph{g, cubicLadder(g.Size), cubicLadder(22 - g.Size)} {
				checkSymmetry(t, leadsToCall(), g, h, symmetryArguments{list: list}, impl.ErrRange)
				checkSymmetry(t, leadsToCall(), h, g, symmetryArguments{list: list}, impl.ErrRange)
			}
		}
	}
}

func TestVerticesOutOfRangeHaveNoStabiliser(t *testing.T) {
	for _, g := range []impl.Graph{named(t, "theta"), named(t, "k4"), named(t, "bridge"), parsed(t, frucht), parsed(t, heawood), parsed(t, hung768), cubicRing(20)} {
		for _, v := range outside(g.Size) {
			checkSymmetry(t, stabiliserCall(), g, g, symmetryArguments{v: v}, impl.ErrRange)
		}
		for v := range g.Size {
			checkSymmetry(t, stabiliserCall(), g, g, symmetryArguments{v: v}, impl.ErrNone)
		}
	}
}

// There are renumberings of 1 to MaxVertices vertices, of odd numbers of them too.
func TestCycleTypesOfNoRenumberings(t *testing.T) {
	lists := [][]int64{nil, {}, {1}, {-1}, {1 << 32}, {-1 << 63}, {1<<63 - 1}, numbersUpTo(21), append(numbersUpTo(21)[1:], 0), numbersUpTo(22), numbersUpTo(40), numbersUpTo(1000),
		slices.Repeat([]int64{0}, 20), slices.Repeat([]int64{19}, 20), {1, 2, 3}, {0, 0}, {1, 1}, {0, 2, 1, 3, 3}}
	for n := int64(2); n <= 20; n++ {
		for _, list := range noRenumberings(n) {
			// Some are too short for n vertices, or too long, but not for others.
			if !refIsRenumbering(list, int64(len(list))) || len(list) == 0 || len(list) > 20 {
				lists = append(lists, list)
			}
		}
	}
	for _, list := range lists {
		if lengths, code := impl.CycleTypeOf(list); len(lengths) != 0 || code != impl.ErrRange {
			t.Errorf("CycleTypeOf(%v) = %v, %d", list, lengths, code)
		}
	}
	for n := 1; n <= 20; n++ {
		if lengths, code := impl.CycleTypeOf(numbersUpTo(n)); len(lengths) != n || code != impl.ErrNone {
			t.Errorf("CycleTypeOf of %d numbers = %v, %d", n, lengths, code)
		}
	}
}

func TestSymmetryLeavesArgumentsAsTheyAre(t *testing.T) {
	for _, name := range names() {
		g, allOfG := behindEdges(named(t, name))
		h, allOfH := behindEdges(turned(t, cubicLadder(g.Size)))
		list, allOfList := behind(append(numbersUpTo(int(g.Size))[1:], 0))
		edges, others, numbers := slices.Clone(allOfG), slices.Clone(allOfH), slices.Clone(allOfList)
		for _, call := range slices.Concat(symmetryPairCalls(), symmetryCalls(), []symmetryCall{leadsToCall()}) {
			call.run(g, h, symmetryArguments{list, 1})
			call.run(g, g, symmetryArguments{list, 1})
			call.run(h, g, symmetryArguments{list, 1})
		}
		for _, made := range listsOfSymmetry(g, list) {
			fill(made)
		}
		if !slices.Equal(allOfG, edges) || !slices.Equal(allOfH, others) || !slices.Equal(allOfList, numbers) {
			t.Fatalf("%s: arguments have become %v, %v, %v", name, allOfG, allOfH, allOfList)
		}
	}
}

// listsOfSymmetry returns all lists that chapter 10 returns for a graph and a list.
func listsOfSymmetry(g impl.Graph, list []int64) [][]int64 {
	least, _ := impl.FindRenumbering(g, g)
	lengths, _ := impl.CycleTypeOf(list)
	automorphisms, _ := impl.AutomorphismsOf(g)
	vertices, _ := impl.VertexOrbits(g)
	edges, _ := impl.EdgeOrbits(g)
	return slices.Concat([][]int64{least, lengths}, automorphisms, vertices, edges)
}

func TestSymmetrySharesNoMemory(t *testing.T) {
	for _, g := range []impl.Graph{named(t, "theta"), named(t, "k4"), named(t, "tietze"), named(t, "bridge"), parsed(t, twoDoubles), spokes(10, 3)} {
		checkApart(t, func() [][]int64 { return listsOfSymmetry(g, numbersUpTo(int(g.Size))) })
		checkAppends(t, func() [][]int64 { return listsOfSymmetry(g, numbersUpTo(int(g.Size))) })
	}
}
