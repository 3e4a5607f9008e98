package tests

import (
	"slices"
	"testing"

	"loop.example/g01329/impl"
)

func TestCoverLimits(t *testing.T) {
	if impl.MaxCycled != 12 || impl.MaxTurned != 10 {
		t.Error("MaxCycled, MaxTurned", impl.MaxCycled, impl.MaxTurned)
	}
}

// An evenCase is a set of edges and the cycles of which it is made. It is not even if it has edges but no cycles.
type evenCase struct {
	why    string
	g      impl.Graph
	set    []int64
	cycles [][]int64
}

func evenCases(t *testing.T) []evenCase {
	t.Helper()
	theta, k4, prism, cube := named(t, "theta"), named(t, "k4"), named(t, "prism"), named(t, "cube")
	least, petersen := parsed(t, leastBridge), named(t, "petersen")
	return []evenCase{
		{"no edges", theta, nil, nil},
		{"no edges of a great graph", cubicRing(20), []int64{}, nil},
		{"two equal edges", theta, []int64{0, 1}, [][]int64{{0, 1}}},
		{"two equal edges with one between them", theta, []int64{0, 2}, [][]int64{{0, 2}}},
		{"one edge", theta, []int64{1}, nil},
		{"three equal edges", theta, []int64{0, 1, 2}, nil},
		{"a triangle", k4, []int64{0, 1, 3}, [][]int64{{0, 1, 3}}},
		{"all vertices", k4, []int64{1, 2, 3, 4}, [][]int64{{1, 2, 3, 4}}},
		{"a way", k4, []int64{0, 3, 5}, nil},
		{"a matching", k4, []int64{0, 5}, nil},
		{"all edges", k4, allEdges(k4), nil},
		{"a triangle and an edge", k4, []int64{0, 1, 2, 3}, nil},
		{"two triangles", prism, []int64{0, 1, 3, 6, 7, 8}, [][]int64{{0, 1, 3}, {6, 7, 8}}},
		{"two triangles and a rung", prism, []int64{0, 1, 2, 3, 6, 7, 8}, nil},
		{"two triangles without an edge", prism, []int64{0, 1, 3, 6, 7}, nil},
		{"two squares in turn", cube, []int64{1, 2, 3, 4, 6, 7, 9, 10}, [][]int64{{1, 2, 6, 9}, {3, 4, 7, 10}}},
		{"two pentagons", petersen, []int64{0, 1, 3, 5, 7, 10, 11, 12, 13, 14}, [][]int64{{0, 1, 3, 5, 7}, {10, 11, 12, 13, 14}}},
		{"equal edges at both ends of a bridge", least, []int64{0, 1, 7, 8}, [][]int64{{0, 1}, {7, 8}}},
		{"triangles at both ends of a bridge", least, []int64{1, 2, 3, 5, 6, 8}, [][]int64{{1, 2, 3}, {5, 6, 8}}},
		{"a bridge", least, []int64{4}, nil},
		{"cycles and the bridge between them", least, []int64{1, 2, 3, 4, 5, 6, 8}, nil},
		{"a greater cycle first", beside(t, k4, theta), []int64{0, 1, 4, 5, 6, 8}, [][]int64{{0, 1, 4, 5}, {6, 8}}},
		{"a lesser cycle first", beside(t, theta, k4), []int64{1, 2, 4, 5, 8}, [][]int64{{1, 2}, {4, 5, 8}}},
		{"one part alone", thetas(t, 10), []int64{27, 29}, [][]int64{{27, 29}}},
		{"three parts", thetas(t, 10), []int64{0, 1, 13, 14, 27, 28}, [][]int64{{0, 1}, {13, 14}, {27, 28}}},
		{"an edge of each part", thetas(t, 2), []int64{0, 3}, nil},
		{"equal edges of a great graph", cubicLadder(20), []int64{0, 1, 4, 5, 7, 8}, [][]int64{{0, 1}, {4, 5}, {7, 8}}},
	}
}

func TestEvenSetsAndTheirCycles(t *testing.T) {
	for _, c := range evenCases(t) {
		even, a := impl.IsEvenSet(c.g, c.set)
		if even != (len(c.set) == 0 || len(c.cycles) > 0) || a != impl.ErrNone {
			t.Errorf("%s: IsEvenSet = %v, %d", c.why, even, a)
		}
		one, b := impl.IsCycle(c.g, c.set)
		if one != (len(c.cycles) == 1) || b != impl.ErrNone {
			t.Errorf("%s: IsCycle = %v, %d", c.why, one, b)
		}
		cycles, code := impl.CyclesOfSet(c.g, c.set)
		if !sameParts(cycles, c.cycles) || (code == impl.ErrNone) != even || code != impl.ErrNone && code != impl.ErrState {
			t.Errorf("%s: CyclesOfSet = %v, %d", c.why, cycles, code)
		}
	}
}

// All sets of edges of small graphs.
func TestEvenSetsAmongAllSets(t *testing.T) {
	for _, g := range []impl.Graph{named(t, "theta"), named(t, "k4"), parsed(t, twoDoubles), thetas(t, 2), named(t, "k33"), named(t, "prism"),
		parsed(t, leastBridge), thetas(t, 3), beside(t, named(t, "k4"), named(t, "theta")), parsed(t, rowOfBridges)} {
		at := refEdgesAt(g)
		for set := range uint32(1) << len(g.Edges) {
			list := listOf(set)
			even, a := impl.IsEvenSet(g, list)
			one, b := impl.IsCycle(g, list)
			cycles, code := impl.CyclesOfSet(g, list)
			if even != refIsEven(at, set) || one != refIsCycle(at, set) || a != impl.ErrNone || b != impl.ErrNone {
				t.Fatalf("%v, %v: %v, %d, %v, %d", g, list, even, a, one, b)
			}
			if !even && (code != impl.ErrState || len(cycles) > 0) {
				t.Fatalf("CyclesOfSet(%v, %v) = %v, %d", g, list, cycles, code)
			}
			if even && (code != impl.ErrNone || !sameParts(cycles, listsOfSets(refCyclesOf(at, set)))) {
				t.Fatalf("CyclesOfSet(%v, %v) = %v, %d", g, list, cycles, code)
			}
		}
	}
}

func TestAllCycles(t *testing.T) {
	for _, c := range []struct {
		g    impl.Graph
		want [][]int64
	}{
		{named(t, "theta"), [][]int64{{0, 1}, {0, 2}, {1, 2}}},
		{named(t, "k4"), [][]int64{{0, 1, 3}, {0, 2, 4}, {1, 2, 5}, {3, 4, 5}, {0, 1, 4, 5}, {0, 2, 3, 5}, {1, 2, 3, 4}}},
		{parsed(t, twoDoubles), [][]int64{{0, 1}, {4, 5}, {0, 2, 3, 4}, {0, 2, 3, 5}, {1, 2, 3, 4}, {1, 2, 3, 5}}},
		{parsed(t, leastBridge), [][]int64{{0, 1}, {7, 8}, {0, 2, 3}, {1, 2, 3}, {5, 6, 7}, {5, 6, 8}}},
		{thetas(t, 2), [][]int64{{0, 1}, {0, 2}, {1, 2}, {3, 4}, {3, 5}, {4, 5}}},
		// The cycles of the second part are less.
		{beside(t, named(t, "k4"), named(t, "theta")), [][]int64{{6, 7}, {6, 8}, {7, 8}, {0, 1, 3}, {0, 2, 4}, {1, 2, 5}, {3, 4, 5},
			{0, 1, 4, 5}, {0, 2, 3, 5}, {1, 2, 3, 4}}},
	} {
		cycles, code := impl.AllCycles(c.g)
		if !sameParts(cycles, c.want) || code != impl.ErrNone {
			t.Errorf("AllCycles(%v) = %v, %d", c.g, cycles, code)
		}
	}
}

// The numbers of cycles by their sizes.
func TestNumbersOfCycles(t *testing.T) {
	for name, want := range map[string]map[int]int{
		"theta": {2: 3}, "k4": {3: 4, 4: 3}, "k33": {4: 9, 6: 6}, "prism": {3: 2, 4: 3, 5: 6, 6: 3}, "cube": {4: 6, 6: 16, 8: 6},
		"petersen": {5: 12, 6: 10, 8: 15, 9: 20}, "bridge": {3: 4, 4: 6, 5: 4},
	} {
		cycles, code := impl.AllCycles(named(t, name))
		counts := map[int]int{}
		for _, cycle := range cycles {
			counts[len(cycle)]++
		}
		for size, count := range want {
			if counts[size] != count {
				t.Errorf("AllCycles(%s): %d cycles with %d edges", name, counts[size], size)
			}
		}
		if len(counts) != len(want) || code != impl.ErrNone {
			t.Errorf("AllCycles(%s): %v, %d", name, counts, code)
		}
	}
}

func TestSumOfSets(t *testing.T) {
	k4 := named(t, "k4")
	for _, c := range []struct {
		g          impl.Graph
		a, b, want []int64
	}{
		{k4, nil, nil, nil},
		{k4, []int64{0, 1, 3}, nil, []int64{0, 1, 3}},
		{k4, []int64{0, 1, 3}, []int64{0, 1, 3}, nil},
		{k4, []int64{0, 1, 3}, []int64{0, 2, 4}, []int64{1, 2, 3, 4}},
		{k4, []int64{0, 1, 4, 5}, []int64{0, 2, 3, 5}, []int64{1, 2, 3, 4}},
		// Sets need not be even.
		{k4, []int64{0}, []int64{5}, []int64{0, 5}},
		{k4, []int64{4, 5}, []int64{0, 1}, []int64{0, 1, 4, 5}},
		{k4, []int64{0, 2, 4}, []int64{1, 3, 5}, []int64{0, 1, 2, 3, 4, 5}},
		{k4, []int64{0, 1, 2, 3, 4, 5}, []int64{2}, []int64{0, 1, 3, 4, 5}},
		{k4, []int64{3}, []int64{3, 4}, []int64{4}},
		{cubicRing(20), []int64{0, 14, 29}, []int64{14, 28}, []int64{0, 28, 29}},
	} {
		for _, order := range [][2][]int64{{c.a, c.b}, {c.b, c.a}} {
			if sum, code := impl.SumOfSets(c.g, order[0], order[1]); !slices.Equal(sum, c.want) || code != impl.ErrNone {
				t.Errorf("SumOfSets(%v, %v, %v) = %v, %d", c.g, order[0], order[1], sum, code)
			}
		}
	}
	for a := range uint32(1) << 6 {
		for b := range uint32(1) << 6 {
			if sum, code := impl.SumOfSets(k4, listOf(a), listOf(b)); !slices.Equal(sum, listOf(a^b)) || code != impl.ErrNone {
				t.Fatalf("SumOfSets(k4, %v, %v) = %v, %d", listOf(a), listOf(b), sum, code)
			}
		}
	}
}

// triangles are the cycles of three edges of the graph k4, squares those of four.
func triangles() [][]int64 { return [][]int64{{0, 1, 3}, {0, 2, 4}, {1, 2, 5}, {3, 4, 5}} }
func squares() [][]int64   { return [][]int64{{0, 1, 4, 5}, {0, 2, 3, 5}, {1, 2, 3, 4}} }

func TestIsDoubleCover(t *testing.T) {
	theta, k4, prism, least := named(t, "theta"), named(t, "k4"), named(t, "prism"), parsed(t, leastBridge)
	digons := [][]int64{{0, 1}, {0, 2}, {1, 2}}
	rungs := [][]int64{{0, 2, 4, 6}, {1, 2, 5, 7}, {3, 4, 5, 8}}
	for _, c := range []struct {
		why    string
		g      impl.Graph
		cycles [][]int64
		want   bool
	}{
		{"all cycles of two edges", theta, digons, true},
		{"in another order", theta, [][]int64{{1, 2}, {0, 1}, {0, 2}}, true},
		{"triangles", k4, triangles(), true},
		{"squares", k4, squares(), true},
		{"triangles and squares", k4, slices.Concat(triangles(), squares()), false},
		{"a square for two triangles", k4, [][]int64{{1, 2, 3, 4}, {1, 2, 5}, {3, 4, 5}}, false},
		{"two equal edges twice", parsed(t, twoDoubles), [][]int64{{0, 1}, {4, 5}, {0, 2, 3, 4}, {1, 2, 3, 5}}, true},
		{"the other way", parsed(t, twoDoubles), [][]int64{{0, 2, 3, 5}, {0, 1}, {1, 2, 3, 4}, {4, 5}}, true},
		{"faces", prism, slices.Concat(rungs, [][]int64{{0, 1, 3}, {6, 7, 8}}), true},
		{"two cycles as one set", prism, slices.Concat(rungs, [][]int64{{0, 1, 3, 6, 7, 8}}), false},
		{"two parts", thetas(t, 2), slices.Concat(digons, [][]int64{{3, 4}, {3, 5}, {4, 5}}), true},
		{"one part of two", thetas(t, 2), digons, false},
		{"none", theta, nil, false},
		{"none of a great graph", cubicRing(20), [][]int64{}, false},
		{"one missing", k4, triangles()[1:], false},
		{"one too many", k4, append(triangles(), []int64{3, 4, 5}), false},
		{"one twice, another one missing", k4, append(triangles()[:3], []int64{1, 2, 5}), false},
		{"one twice", theta, [][]int64{{0, 1}, {0, 1}}, false},
		{"each twice", k4, slices.Concat(triangles(), triangles()), false},
		{"an empty set more", theta, append(slices.Clone(digons), nil), false},
		{"only an empty set", theta, [][]int64{nil}, false},
		{"sets that are not even", theta, [][]int64{{0, 1, 2}, {0, 1, 2}}, false},
		{"a way", k4, [][]int64{{0, 1, 3}, {0, 2, 4}, {1, 2, 5}, {3, 4}, {5}}, false},
		{"a graph with a bridge", least, [][]int64{{0, 1}, {0, 2, 3}, {1, 2, 3}, {5, 6, 7}, {5, 6, 8}, {7, 8}}, false},
		{"a graph with a bridge, the bridge twice", least, [][]int64{{0, 1}, {0, 2, 3}, {1, 2, 3}, {4}, {4}, {5, 6, 7}, {5, 6, 8}, {7, 8}}, false},
	} {
		if yes, code := impl.IsDoubleCover(c.g, c.cycles); yes != c.want || code != impl.ErrNone {
			t.Errorf("%s: IsDoubleCover(%v, %v) = %v, %d", c.why, c.g, c.cycles, yes, code)
		}
	}
}

// All lists in which each cycle stands not at all, once, or twice, and all ways to turn those that are double covers. There
// is none in which a cycle stands twice: at a vertex of it the third edge would be in no cycle.
func TestDoubleCoversAmongAllLists(t *testing.T) {
	for _, g := range []impl.Graph{named(t, "theta"), named(t, "k4"), parsed(t, twoDoubles), parsed(t, leastBridge), thetas(t, 2)} {
		all := refAllCycles(g)
		at := refEdgesAt(g)
		found := 0
		allValues(len(all), 0, 2, func(times []int64) {
			var sets []uint32
			for i, cycle := range all {
				sets = append(sets, slices.Repeat([]uint32{cycle}, int(times[i]))...)
			}
			slices.Reverse(sets)
			cycles := listsOfSets(sets)
			yes, code := impl.IsDoubleCover(g, cycles)
			if yes != refIsDoubleCover(g, at, sets) || yes && slices.Contains(times, 2) || code != impl.ErrNone {
				t.Fatalf("IsDoubleCover(%v, %v) = %v, %d", g, cycles, yes, code)
			}
			if yes {
				found++
				checkTurns(t, g, cycles)
			}
		})
		if (found > 0) != (len(refBridges(g)) == 0) {
			t.Errorf("%v has %d double covers", g, found)
		}
	}
}

// checkTurns looks at all ways to turn the cycles of a double cover, and returns how many there are.
func checkTurns(t *testing.T, g impl.Graph, cycles [][]int64) int {
	t.Helper()
	oriented := 0
	allValues(len(cycles), 0, 1, func(turns []int64) {
		yes, code := impl.IsOrientedBy(g, cycles, turns)
		if yes != refIsOriented(g, cycles, turns) || code != impl.ErrNone {
			t.Fatalf("IsOrientedBy(%v, %v, %v) = %v, %d", g, cycles, turns, yes, code)
		}
		if yes {
			oriented++
		}
	})
	return oriented
}

func TestIsOrientedBy(t *testing.T) {
	theta, k4, doubles := named(t, "theta"), named(t, "k4"), parsed(t, twoDoubles)
	digons := [][]int64{{0, 1}, {0, 2}, {1, 2}}
	cover := [][]int64{{0, 1}, {4, 5}, {0, 2, 3, 4}, {1, 2, 3, 5}}
	for _, c := range []struct {
		g      impl.Graph
		cycles [][]int64
		turns  []int64
		want   bool
	}{
		{theta, digons, []int64{0, 1, 0}, true},
		{theta, digons, []int64{1, 0, 1}, true},
		{theta, digons, []int64{0, 0, 0}, false},
		{theta, digons, []int64{1, 1, 0}, false},
		{theta, [][]int64{{1, 2}, {0, 1}, {0, 2}}, []int64{0, 0, 1}, true},
		{k4, triangles(), []int64{0, 1, 0, 1}, true},
		{k4, triangles(), []int64{1, 0, 1, 0}, true},
		{k4, triangles(), []int64{0, 0, 0, 0}, false},
		{k4, triangles(), []int64{0, 1, 0, 0}, false},
		{doubles, cover, []int64{0, 1, 1, 0}, true},
		{doubles, cover, []int64{1, 0, 0, 1}, true},
		{doubles, cover, []int64{0, 0, 1, 0}, false},
		{doubles, cover, []int64{1, 1, 1, 1}, false},
	} {
		if yes, code := impl.IsOrientedBy(c.g, c.cycles, c.turns); yes != c.want || code != impl.ErrNone {
			t.Errorf("IsOrientedBy(%v, %v, %v) = %v, %d", c.g, c.cycles, c.turns, yes, code)
		}
	}
	// The squares can be turned in no way, the triangles in two.
	if a, b := checkTurns(t, k4, squares()), checkTurns(t, k4, triangles()); a != 0 || b != 2 {
		t.Errorf("%d ways to turn the squares, %d to turn the triangles", a, b)
	}
}

func TestCoverOfColouring(t *testing.T) {
	for _, c := range []struct {
		g    impl.Graph
		c    []int64
		want [][]int64
	}{
		{named(t, "theta"), []int64{0, 1, 2}, [][]int64{{0, 1}, {0, 2}, {1, 2}}},
		{named(t, "theta"), []int64{0, 2, 1}, [][]int64{{0, 2}, {0, 1}, {1, 2}}},
		{named(t, "theta"), []int64{2, 1, 0}, [][]int64{{1, 2}, {0, 2}, {0, 1}}},
		{named(t, "k4"), []int64{0, 1, 2, 2, 1, 0}, squares()},
		{named(t, "k4"), []int64{1, 2, 0, 0, 2, 1}, [][]int64{{0, 2, 3, 5}, {1, 2, 3, 4}, {0, 1, 4, 5}}},
		{parsed(t, twoDoubles), []int64{0, 1, 2, 2, 0, 1}, [][]int64{{0, 1}, {4, 5}, {0, 2, 3, 4}, {1, 2, 3, 5}}},
		{parsed(t, twoDoubles), []int64{2, 1, 0, 0, 2, 1}, [][]int64{{1, 2, 3, 5}, {0, 2, 3, 4}, {0, 1}, {4, 5}}},
		{thetas(t, 2), []int64{0, 1, 2, 1, 2, 0}, [][]int64{{0, 1}, {3, 5}, {0, 2}, {4, 5}, {1, 2}, {3, 4}}},
		{named(t, "cube"), []int64{0, 1, 2, 1, 2, 0, 2, 2, 0, 1, 1, 0}, [][]int64{{0, 1, 3, 5}, {8, 9, 10, 11}, {0, 2, 4, 8}, {5, 6, 7, 11}, {1, 2, 6, 9}, {3, 4, 7, 10}}},
	} {
		cover, code := impl.CoverOfColouring(c.g, c.c)
		if !sameParts(cover, c.want) || code != impl.ErrNone {
			t.Errorf("CoverOfColouring(%v, %v) = %v, %d", c.g, c.c, cover, code)
		}
	}
}

func TestFacesOf(t *testing.T) {
	theta, k4 := named(t, "theta"), named(t, "k4")
	for _, c := range []struct {
		g        impl.Graph
		rotation []int64
		want     [][]int64
	}{
		{theta, []int64{0, 0}, [][]int64{{0, 1, 2, 0, 1, 2}}},
		{theta, []int64{1, 1}, [][]int64{{0, 2, 1, 0, 2, 1}}},
		{theta, []int64{0, 1}, [][]int64{{0, 2}, {0, 1}, {1, 2}}},
		{theta, []int64{1, 0}, [][]int64{{0, 1}, {0, 2}, {1, 2}}},
		// The edges 1 and 4 stand twice in one face.
		{k4, []int64{0, 0, 0, 0}, [][]int64{{0, 3, 5, 2}, {0, 1, 3, 4, 5, 1, 2, 4}}},
		{k4, []int64{0, 1, 0, 1}, [][]int64{{0, 4, 2}, {0, 1, 3}, {1, 2, 5}, {3, 5, 4}}},
		{k4, []int64{1, 0, 1, 0}, [][]int64{{0, 3, 1}, {0, 2, 4}, {1, 5, 2}, {3, 4, 5}}},
		{k4, []int64{1, 1, 1, 1}, [][]int64{{0, 4, 2, 1, 5, 4, 3, 1}, {0, 2, 5, 3}}},
		// One face goes along the bridge both ways.
		{parsed(t, leastBridge), []int64{0, 0, 0, 0, 0, 0}, [][]int64{{0, 1, 2, 3, 0, 1, 3, 4, 5, 7, 8, 5, 6, 7, 8, 6, 4, 2}}},
		{parsed(t, leastBridge), []int64{0, 1, 0, 0, 0, 1}, [][]int64{{0, 3, 4, 5, 7, 6, 4, 2}, {0, 1}, {1, 2, 3}, {5, 6, 8}, {7, 8}}},
		{thetas(t, 2), []int64{0, 0, 0, 1}, [][]int64{{0, 1, 2, 0, 1, 2}, {3, 5}, {3, 4}, {4, 5}}},
	} {
		faces, code := impl.FacesOf(c.g, c.rotation)
		if !sameParts(faces, c.want) || code != impl.ErrNone {
			t.Errorf("FacesOf(%v, %v) = %v, %d", c.g, c.rotation, faces, code)
		}
		checkFaces(t, c.g, c.rotation, faces)
	}
}

// How many rotations have each genus.
func TestGenusOfRotation(t *testing.T) {
	for _, c := range []struct {
		g    impl.Graph
		want map[int64]int
	}{
		{named(t, "theta"), map[int64]int{0: 2, 1: 2}},
		{named(t, "k4"), map[int64]int{0: 2, 1: 14}},
		{named(t, "k33"), map[int64]int{1: 40, 2: 24}},
		{named(t, "prism"), map[int64]int{0: 2, 1: 38, 2: 24}},
		{parsed(t, leastBridge), map[int64]int{0: 16, 1: 32, 2: 16}},
	} {
		counts := map[int64]int{}
		allValues(int(c.g.Size), 0, 1, func(rotation []int64) {
			genus, code := impl.GenusOfRotation(c.g, rotation)
			if code != impl.ErrNone {
				t.Fatalf("GenusOfRotation(%v, %v): code %d", c.g, rotation, code)
			}
			counts[genus]++
		})
		for genus, count := range c.want {
			if counts[genus] != count || len(counts) != len(c.want) {
				t.Errorf("%v: numbers of rotations by their genera: %v", c.g, counts)
			}
		}
	}
}

func TestLeastGenus(t *testing.T) {
	for _, c := range []struct {
		g    impl.Graph
		want int64
	}{
		{named(t, "theta"), 0}, {named(t, "k4"), 0}, {named(t, "k33"), 1}, {named(t, "prism"), 0}, {named(t, "cube"), 0},
		{named(t, "petersen"), 1}, {named(t, "bridge"), 0}, {parsed(t, twoDoubles), 0}, {parsed(t, leastBridge), 0},
		{parsed(t, threeBridges), 0}, {parsed(t, tenMatchings), 1},
		// The rings of 8 and 10 vertices are none that could be drawn in the plane, the ladders are.
		{cubicRing(8), 1}, {cubicRing(10), 1}, {cubicLadder(8), 0}, {cubicLadder(10), 0},
	} {
		if genus, code := impl.LeastGenus(c.g); genus != c.want || code != impl.ErrNone {
			t.Errorf("LeastGenus(%v) = %d, %d", c.g, genus, code)
		}
	}
}
