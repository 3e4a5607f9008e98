package tests

import (
	"slices"
	"testing"

	"loop.example/g01329/impl"
)

// A coverCall calls a function of chapter 7 with a graph, and with what it has of a set of edges, a list of sets, and a list
// of numbers, and tells its code and whether its other result is the zero value.
type coverCall struct {
	name string
	run  func(g impl.Graph, x coverArguments) (int64, bool)
}

type coverArguments struct {
	set     []int64
	sets    [][]int64
	numbers []int64
}

// callsOfSets are the functions that have one set of edges, SumOfSets as the first one and as the second one.
func callsOfSets() []coverCall {
	return []coverCall{
		{"IsEvenSet", func(g impl.Graph, x coverArguments) (int64, bool) {
			yes, code := impl.IsEvenSet(g, x.set)
			return code, !yes
		}},
		{"CyclesOfSet", func(g impl.Graph, x coverArguments) (int64, bool) {
			cycles, code := impl.CyclesOfSet(g, x.set)
			return code, len(cycles) == 0
		}},
		{"IsCycle", func(g impl.Graph, x coverArguments) (int64, bool) {
			yes, code := impl.IsCycle(g, x.set)
			return code, !yes
		}},
		{"SumOfSets with no edges behind", func(g impl.Graph, x coverArguments) (int64, bool) {
			sum, code := impl.SumOfSets(g, x.set, nil)
			return code, len(sum) == 0
		}},
		{"SumOfSets with an edge before", func(g impl.Graph, x coverArguments) (int64, bool) {
			sum, code := impl.SumOfSets(g, []int64{0}, x.set)
			return code, len(sum) == 0
		}},
		{"SumOfSets of equal lists", func(g impl.Graph, x coverArguments) (int64, bool) {
			sum, code := impl.SumOfSets(g, x.set, x.set)
			return code, len(sum) == 0
		}},
	}
}

func isDoubleCoverCall() coverCall {
	return coverCall{"IsDoubleCover", func(g impl.Graph, x coverArguments) (int64, bool) {
		yes, code := impl.IsDoubleCover(g, x.sets)
		return code, !yes
	}}
}

func isOrientedByCall() coverCall {
	return coverCall{"IsOrientedBy", func(g impl.Graph, x coverArguments) (int64, bool) {
		yes, code := impl.IsOrientedBy(g, x.sets, x.numbers)
		return code, !yes
	}}
}

func coverOfColouringCall() coverCall {
	return coverCall{"CoverOfColouring", func(g impl.Graph, x coverArguments) (int64, bool) {
		cover, code := impl.CoverOfColouring(g, x.numbers)
		return code, len(cover) == 0
	}}
}

// callsOfRotations are the functions that have a rotation.
func callsOfRotations() []coverCall {
	return []coverCall{
		{"FacesOf", func(g impl.Graph, x coverArguments) (int64, bool) {
			faces, code := impl.FacesOf(g, x.numbers)
			return code, len(faces) == 0
		}},
		{"GenusOfRotation", func(g impl.Graph, x coverArguments) (int64, bool) {
			genus, code := impl.GenusOfRotation(g, x.numbers)
			return code, genus == 0
		}},
	}
}

// callsOfGraphs are the functions that have a graph alone.
func callsOfGraphs() []coverCall {
	return []coverCall{
		{"AllCycles", func(g impl.Graph, x coverArguments) (int64, bool) {
			cycles, code := impl.AllCycles(g)
			return code, len(cycles) == 0
		}},
		{"LeastGenus", func(g impl.Graph, x coverArguments) (int64, bool) {
			genus, code := impl.LeastGenus(g)
			return code, genus == 0
		}},
	}
}

func coverCalls() []coverCall {
	return slices.Concat(callsOfSets(), []coverCall{isDoubleCoverCall(), isOrientedByCall(), coverOfColouringCall()},
		callsOfRotations(), callsOfGraphs())
}

// What is not a graph is told before lists that are not as told, what is not even or no cover, parts, and limits.
func TestCoversOfNoGraphs(t *testing.T) {
	bad := badGraphs()
	for _, g := range []impl.Graph{named(t, "bridge"), named(t, "k33"), cubicRing(20), thetas(t, 7), thetas(t, 2)} {
		g = copyGraph(g)
		slices.Reverse(g.Edges)
		bad = append(bad, badGraph{"edges out of order", g})
	}
	for _, bad := range bad {
		for _, set := range [][]int64{nil, {0}, {0, 1}, {0, 1, 3}, {1, 0}, {0, 0}, {-1}, {40}, {1<<63 - 1}} {
			for _, sets := range [][][]int64{nil, {set}, {nil, set}, {set, {-1}}, triangles()} {
				for _, numbers := range [][]int64{nil, {0}, {0, 1}, {0, 1, 0, 1}, {3}, {-1, 0}, {0, 1, 2, 2, 1, 0}, make([]int64, len(bad.g.Edges))} {
					for _, call := range coverCalls() {
						if code, zero := call.run(bad.g, coverArguments{set, sets, numbers}); code != impl.ErrInvalid || !zero {
							t.Fatalf("%s: %s with %v, %v, %v: code %d, zero %v", bad.why, call.name, set, sets, numbers, code, zero)
						}
					}
				}
			}
		}
	}
}

// graphsForErrors returns graphs of the least and the greatest Size, with bridges, equal edges, and of several parts.
func graphsForErrors(t *testing.T) []impl.Graph {
	t.Helper()
	return []impl.Graph{named(t, "theta"), named(t, "k4"), named(t, "petersen"), named(t, "bridge"), thetas(t, 2), thetas(t, 10), cubicRing(20), cubicLadder(20)}
}

// Lists that are no sets are told wherever they stand, and before what is not even and what is no double cover.
func TestListsThatAreNoSetsOfEdges(t *testing.T) {
	for _, g := range graphsForErrors(t) {
		for _, list := range noSets(int64(len(g.Edges))) {
			for _, call := range callsOfSets() {
				if code, zero := call.run(g, coverArguments{set: list}); code != impl.ErrRange || !zero {
					t.Errorf("%s(%v, %v): code %d, zero %v", call.name, g, list, code, zero)
				}
			}
			for _, sets := range [][][]int64{{list}, {list, {0}}, {{0, 1}, list}, {nil, {0, 1, 2}, list}, {{0}, list, nil}, {list, list}} {
				x := coverArguments{sets: sets, numbers: make([]int64, len(sets))}
				for _, call := range []coverCall{isDoubleCoverCall(), isOrientedByCall()} {
					if code, zero := call.run(g, x); code != impl.ErrRange || !zero {
						t.Errorf("%s(%v, %v): code %d, zero %v", call.name, g, sets, code, zero)
					}
				}
			}
		}
		last := coverArguments{set: []int64{int64(len(g.Edges)) - 1}}
		for _, call := range callsOfSets() {
			if code, _ := call.run(g, last); code == impl.ErrRange || code == impl.ErrInvalid {
				t.Errorf("%s(%v, %v): code %d", call.name, g, last, code)
			}
		}
	}
}

// noNumbers returns lists that have not n numbers in 0..greatest: too short, too long, or with one number out of the range.
func noNumbers(n int, greatest int64) [][]int64 {
	lists := [][]int64{make([]int64, n+1), make([]int64, 2*n+1), slices.Repeat([]int64{greatest}, n+1), slices.Repeat([]int64{greatest + 1}, n+1)}
	if n > 0 {
		lists = append(lists, nil, []int64{}, make([]int64, n-1), slices.Repeat([]int64{greatest}, n-1))
	}
	for i := range n {
		for _, x := range []int64{-1 << 63, -2, -1, greatest + 1, greatest + 2, 1 << 32, 1<<63 - 1} {
			list := make([]int64, n)
			list[i] = x
			lists = append(lists, list)
		}
	}
	return lists
}

func TestListsOfNumbersThatAreNone(t *testing.T) {
	for _, g := range graphsForErrors(t) {
		check := func(call coverCall, x coverArguments) {
			t.Helper()
			if code, zero := call.run(g, x); code != impl.ErrRange || !zero {
				t.Errorf("%s(%v, %v): code %d, zero %v", call.name, g, x, code, zero)
			}
		}
		// They are told before numbers that are not different, and before parts.
		for _, list := range noNumbers(len(g.Edges), 2) {
			check(coverOfColouringCall(), coverArguments{numbers: list})
		}
		for _, list := range noNumbers(int(g.Size), 1) {
			for _, call := range callsOfRotations() {
				check(call, coverArguments{numbers: list})
			}
		}
		// They are told before lists of sets that are no double covers.
		for _, sets := range [][][]int64{nil, {{0, 1}}, {nil, {0}}, {{0}, {1}, {0, 2}}, {nil, nil, nil, nil}, triangles()} {
			for _, list := range noNumbers(len(sets), 1) {
				check(isOrientedByCall(), coverArguments{sets: sets, numbers: list})
			}
		}
	}
	for _, list := range noNumbers(4, 1) {
		if yes, code := impl.IsOrientedBy(named(t, "k4"), triangles(), list); yes || code != impl.ErrRange {
			t.Errorf("IsOrientedBy(k4, %v, %v) = %v, %d", triangles(), list, yes, code)
		}
	}
}

func TestSetsThatAreNotEven(t *testing.T) {
	for _, g := range graphsForErrors(t) {
		for _, set := range [][]int64{{0}, {int64(len(g.Edges)) - 1}, allEdges(g), allEdges(g)[1:], {0, 1, 2}, nil} {
			wanted := int64(impl.ErrState)
			if refIsEven(refEdgesAt(g), setOf(set)) {
				wanted = impl.ErrNone
			}
			cycles, code := impl.CyclesOfSet(g, set)
			if code != wanted || code != impl.ErrNone && len(cycles) != 0 {
				t.Errorf("CyclesOfSet(%v, %v) = %v, %d", g, set, cycles, code)
			}
		}
	}
}

// Numbers that are equal at one vertex, or at more.
func TestNumbersThatAreNotDifferent(t *testing.T) {
	for _, g := range colourable(t) {
		c := first(t, g)
		lists := [][]int64{make([]int64, len(c)), slices.Repeat([]int64{2}, len(c))}
		for e := range c {
			for x := int64(1); x <= 2; x++ {
				changed := slices.Clone(c)
				changed[e] = (changed[e] + x) % 3
				lists = append(lists, changed)
			}
		}
		for _, list := range lists {
			if cover, code := impl.CoverOfColouring(g, list); len(cover) != 0 || code != impl.ErrState {
				t.Fatalf("CoverOfColouring(%v, %v) = %v, %d", g, list, cover, code)
			}
		}
	}
}

func TestOrientationsOfNoDoubleCovers(t *testing.T) {
	theta, k4 := named(t, "theta"), named(t, "k4")
	for _, c := range []struct {
		g      impl.Graph
		cycles [][]int64
	}{
		{theta, nil}, {theta, [][]int64{nil}}, {theta, [][]int64{{0, 1}, {0, 2}}}, {theta, [][]int64{{0, 1}, {0, 1}}},
		{theta, [][]int64{{0, 1, 2}, {0, 1, 2}}}, {theta, [][]int64{{0, 1}, {0, 2}, {1, 2}, nil}},
		{k4, triangles()[1:]}, {k4, append(triangles(), []int64{0, 1, 3})}, {k4, slices.Concat(triangles(), triangles())},
		{k4, slices.Concat(triangles(), squares())}, {k4, [][]int64{{0, 1, 3}, {0, 2, 4}, {1, 2, 5}, {3, 4}, {5}}},
		{named(t, "prism"), [][]int64{{0, 2, 4, 6}, {1, 2, 5, 7}, {3, 4, 5, 8}, {0, 1, 3, 6, 7, 8}}},
		{parsed(t, leastBridge), [][]int64{{0, 1}, {0, 2, 3}, {1, 2, 3}, {5, 6, 7}, {5, 6, 8}, {7, 8}}},
		{thetas(t, 2), [][]int64{{0, 1}, {0, 2}, {1, 2}}},
	} {
		for _, x := range []int64{0, 1} {
			turns := slices.Repeat([]int64{x}, len(c.cycles))
			if yes, code := impl.IsOrientedBy(c.g, c.cycles, turns); yes || code != impl.ErrState {
				t.Errorf("IsOrientedBy(%v, %v, %v) = %v, %d", c.g, c.cycles, turns, yes, code)
			}
		}
	}
}

// Graphs of several parts have faces, but no genus; and that is told before the limit.
func TestGeneraOfGraphsThatAreNotConnected(t *testing.T) {
	for _, g := range []impl.Graph{
		thetas(t, 2), thetas(t, 5), thetas(t, 6), thetas(t, 10), beside(t, named(t, "k4"), named(t, "k4")),
		beside(t, named(t, "petersen"), named(t, "petersen")), beside(t, named(t, "theta"), named(t, "bridge")),
	} {
		for _, x := range []int64{0, 1} {
			rotation := slices.Repeat([]int64{x}, int(g.Size))
			if genus, code := impl.GenusOfRotation(g, rotation); genus != 0 || code != impl.ErrState {
				t.Errorf("GenusOfRotation(%v, %v) = %d, %d", g, rotation, genus, code)
			}
			faces, code := impl.FacesOf(g, rotation)
			if code != impl.ErrNone {
				t.Errorf("FacesOf(%v, %v) = %v, %d", g, rotation, faces, code)
			}
			checkFaces(t, g, rotation, faces)
		}
		if genus, code := impl.LeastGenus(g); genus != 0 || code != impl.ErrState {
			t.Errorf("LeastGenus(%v) = %d, %d", g, genus, code)
		}
	}
}

// Graphs with exactly MaxCycled, and exactly MaxTurned, vertices, and with more. All other functions have graphs of any Size.
func TestLimitsOfCovers(t *testing.T) {
	graphs := []impl.Graph{named(t, "tietze"), named(t, "flower5"), thetas(t, 6), thetas(t, 7), thetas(t, 10), parsed(t, doubledPetersen),
		parsed(t, rowOfBridges), beside(t, named(t, "theta"), named(t, "bridge")), beside(t, named(t, "k4"), named(t, "petersen"))}
	for n := int64(4); n <= impl.MaxVertices; n += 2 {
		graphs = append(graphs, cubicRing(n), cubicLadder(n))
	}
	for _, g := range graphs {
		cycles, code := impl.AllCycles(g)
		if g.Size > 12 && (code != impl.ErrLimit || len(cycles) != 0) || g.Size <= 12 && (code != impl.ErrNone || !sameParts(cycles, listsOfSets(refAllCycles(g)))) {
			t.Errorf("AllCycles(%v) = %v, %d", g, cycles, code)
		}
		if len(refSides(g, nil)) > 1 {
			continue
		}
		genus, code := impl.LeastGenus(g)
		if g.Size > 10 && (code != impl.ErrLimit || genus != 0) || g.Size <= 10 && (code != impl.ErrNone || genus != refLeastGenus(g)) {
			t.Errorf("LeastGenus(%v) = %d, %d", g, genus, code)
		}
		rotation := make([]int64, g.Size)
		if genus, code := impl.GenusOfRotation(g, rotation); genus != refGenus(g, listsOfSets(refEdgesAt(g)), rotation) || code != impl.ErrNone {
			t.Errorf("GenusOfRotation(%v, %v) = %d, %d", g, rotation, genus, code)
		}
	}
}

func TestCoversLeaveArgumentsAsTheyAre(t *testing.T) {
	for _, name := range []string{"theta", "k4", "prism", "cube", "k33"} {
		g, allOfG := behindEdges(named(t, name))
		c, allColours := behind(first(t, g))
		cover, _ := impl.CoverOfColouring(g, c)
		set, allOfSet := behind(cover[0])
		other, allOfOther := behind(cover[1])
		rotation, allOfRotation := behind(make([]int64, g.Size))
		turns, allTurns := behind(make([]int64, len(cover)))
		before := [][]int64{slices.Clone(allColours), slices.Clone(allOfSet), slices.Clone(allOfOther), slices.Clone(allOfRotation), slices.Clone(allTurns)}
		edges := slices.Clone(allOfG)
		cover[0], cover[1] = set, other
		allOfCover := append(slices.Clone(cover), []int64{9}, []int64{8, 7})
		cover = allOfCover[:len(cover)]
		var copied [][]int64
		for _, cycle := range allOfCover {
			copied = append(copied, slices.Clone(cycle))
		}
		for _, numbers := range [][]int64{c, rotation, turns} {
			for _, call := range coverCalls() {
				call.run(g, coverArguments{set, cover, numbers})
			}
		}
		made := [][]int64{}
		for _, call := range []func() ([][]int64, int64){
			func() ([][]int64, int64) { return impl.CyclesOfSet(g, set) },
			func() ([][]int64, int64) { return impl.AllCycles(g) },
			func() ([][]int64, int64) { return impl.CoverOfColouring(g, c) },
			func() ([][]int64, int64) { return impl.FacesOf(g, rotation) },
		} {
			lists, code := call()
			if code != impl.ErrNone {
				t.Fatalf("%s: code %d", name, code)
			}
			made = append(made, lists...)
		}
		sum, _ := impl.SumOfSets(g, set, nil)
		second, _ := impl.SumOfSets(g, nil, other)
		for _, list := range append(made, sum, second) {
			fill(list)
		}
		if !sameParts([][]int64{allColours, allOfSet, allOfOther, allOfRotation, allTurns}, before) || !slices.Equal(allOfG, edges) || !sameParts(allOfCover, copied) {
			t.Errorf("%s: arguments have become %v, %v, %v, %v, %v, %v, %v", name, allOfG, allColours, allOfSet, allOfOther, allOfRotation, allTurns, allOfCover)
		}
	}
}

// No two lists of a result share memory, nor do two results.
func TestCoversShareNoMemory(t *testing.T) {
	for _, g := range []impl.Graph{named(t, "theta"), named(t, "k4"), named(t, "prism"), named(t, "cube"), thetas(t, 3), cubicLadder(10)} {
		c := first(t, g)
		both, _ := impl.SumOfSets(g, setOfColours(c, 0, 1), nil)
		for _, call := range []func() [][]int64{
			func() [][]int64 { lists, _ := impl.CyclesOfSet(g, both); return lists },
			func() [][]int64 { lists, _ := impl.AllCycles(g); return lists },
			func() [][]int64 { lists, _ := impl.CoverOfColouring(g, c); return lists },
			func() [][]int64 { lists, _ := impl.FacesOf(g, make([]int64, g.Size)); return lists },
			func() [][]int64 {
				lists, _ := impl.FacesOf(g, slices.Repeat([]int64{0, 1}, int(g.Size/2)))
				return lists
			},
			func() [][]int64 {
				sum, _ := impl.SumOfSets(g, both, nil)
				other, _ := impl.SumOfSets(g, nil, both)
				third, _ := impl.SumOfSets(g, both, []int64{0})
				return [][]int64{sum, other, third}
			},
		} {
			checkApart(t, call)
			checkAppends(t, call)
		}
	}
}

// checkAppends puts something behind each list that a call makes, and looks whether that changes others.
func checkAppends(t *testing.T, call func() [][]int64) {
	t.Helper()
	want, made := call(), call()
	for _, list := range made {
		_ = append(list, 99, 99)
	}
	if !sameParts(made, want) {
		t.Fatalf("%v becomes %v", want, made)
	}
}

// setOfColours returns the edges with one of two colours.
func setOfColours(c []int64, a int64, b int64) []int64 {
	var set []int64
	for e, colour := range c {
		if colour == a || colour == b {
			set = append(set, int64(e))
		}
	}
	return set
}
