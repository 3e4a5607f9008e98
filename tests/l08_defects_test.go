package tests

import (
	"slices"
	"testing"

	"loop.example/g01329/impl"
)

// The text of a graph with the resistance 3 and the oddness 4.
const lessThanOddness = "12:0-8,0-9,0-9,1-2,1-4,1-5,2-4,2-4,3-7,3-7,3-11,5-6,5-10,6-8,6-10,7-11,8-9,10-11"

func TestDefectLimits(t *testing.T) {
	if impl.MaxSmall != 10 || impl.MaxCircle != 14 || impl.MaxWeak != 12 {
		t.Error("MaxSmall, MaxCircle, MaxWeak", impl.MaxSmall, impl.MaxCircle, impl.MaxWeak)
	}
}

func TestAreClose(t *testing.T) {
	theta, k4, cube, least := named(t, "theta"), named(t, "k4"), named(t, "cube"), parsed(t, leastBridge)
	for _, c := range []struct {
		why  string
		g    impl.Graph
		e, f int64
		want bool
	}{
		{"equal edges", theta, 0, 1, true},
		{"equal edges, first and last", theta, 0, 2, true},
		{"a vertex in common", k4, 0, 1, true},
		{"the greater vertex in common", k4, 2, 5, true},
		{"one's greater vertex the other's lesser one", k4, 0, 3, true},
		{"only an edge near to both", k4, 0, 5, true},
		{"only an edge near to both, further back", k4, 2, 3, true},
		{"opposite edges of a square", cube, 0, 5, true},
		{"edges of different squares, joined", cube, 0, 9, true},
		{"edges with a way of two edges between them", cube, 3, 9, false},
		{"the first and the last edge", cube, 0, 11, false},
		{"an edge near to both that is a bridge", least, 2, 6, true},
		{"an edge and a bridge", least, 4, 6, true},
		{"an edge, and a bridge that is not near to it", least, 0, 4, true},
		{"both ends of a bridge, one of them further away", least, 0, 5, false},
		{"equal edges at both ends of a bridge", least, 1, 7, false},
		{"equal edges with one beside them", least, 7, 8, true},
		{"two parts", thetas(t, 2), 2, 3, false},
		{"first and last part", thetas(t, 10), 0, 29, false},
		{"the last part", thetas(t, 10), 27, 29, true},
	} {
		for _, pair := range [][2]int64{{c.e, c.f}, {c.f, c.e}} {
			if yes, code := impl.AreClose(c.g, pair[0], pair[1]); yes != c.want || code != impl.ErrNone {
				t.Errorf("%s: AreClose(%v, %d, %d) = %v, %d", c.why, c.g, pair[0], pair[1], yes, code)
			}
		}
	}
}

func TestAreCloseOfAllPairs(t *testing.T) {
	counts := map[bool]int{}
	for _, g := range graphsWithFlows(t) {
		for i, e := range g.Edges {
			for j, f := range g.Edges {
				if i == j {
					continue
				}
				yes, code := impl.AreClose(g, int64(i), int64(j))
				if yes != refAreClose(g, e, f) || code != impl.ErrNone {
					t.Fatalf("AreClose(%v, %d, %d) = %v, %d", g, i, j, yes, code)
				}
				counts[yes]++
			}
		}
	}
	if counts[true] == 0 || counts[false] == 0 {
		t.Error("pairs:", counts)
	}
}

// A weakCase is a graph and its first weak set.
type weakCase struct {
	why  string
	g    impl.Graph
	weak []int64
}

func weakCases(t *testing.T) []weakCase {
	t.Helper()
	least, three, petersen := parsed(t, leastBridge), parsed(t, threeBridges), named(t, "petersen")
	return []weakCase{
		{"two vertices", named(t, "theta"), nil},
		{"all pairs of four", named(t, "k4"), nil},
		{"equal edges", parsed(t, twoDoubles), nil},
		{"a cube", named(t, "cube"), nil},
		{"twelve vertices in a ring", cubicRing(12), nil},
		{"twelve vertices with equal edges", cubicLadder(12), nil},
		{"six parts", thetas(t, 6), nil},
		{"a snark", petersen, []int64{0, 5}},
		{"a snark with a triangle", named(t, "tietze"), []int64{0, 5}},
		{"a snark with an edge doubled", parsed(t, doubledPetersen), []int64{0, 3}},
		// On both sides of a bridge there are more edges than three matchings have.
		{"a bridge", least, []int64{0, 5}},
		{"a bridge between greater sides", named(t, "bridge"), []int64{0, 8}},
		{"a row of bridges", parsed(t, rowOfBridges), []int64{0, 8}},
		{"three bridges at one vertex", three, []int64{3, 7, 11}},
		{"a part with a colouring first", beside(t, named(t, "theta"), least), []int64{3, 8}},
		{"a part with a colouring last", beside(t, petersen, named(t, "theta")), []int64{0, 5}},
		{"two parts without colourings", beside(t, least, least), []int64{0, 5, 9, 14}},
	}
}

func TestWeakSetsAndResistances(t *testing.T) {
	for _, c := range weakCases(t) {
		weak, a := impl.WeakSet(c.g)
		resistance, b := impl.ResistanceOf(c.g)
		if !slices.Equal(weak, c.weak) || resistance != int64(len(c.weak)) || a != impl.ErrNone || b != impl.ErrNone {
			t.Errorf("%s: WeakSet = %v, %d, ResistanceOf = %d, %d", c.why, weak, a, resistance, b)
		}
	}
}

func TestIsCircular(t *testing.T) {
	theta, k4 := named(t, "theta"), named(t, "k4")
	for _, c := range []struct {
		g    impl.Graph
		k, d int64
		list []int64
		want bool
	}{
		{theta, 3, 1, []int64{0, 1, 2}, true}, {theta, 3, 1, []int64{2, 0, 1}, true},
		{theta, 3, 1, []int64{0, 1, 1}, false}, {theta, 3, 1, []int64{0, 0, 0}, false}, {theta, 3, 1, []int64{2, 1, 2}, false},
		// Numbers go up to k - 1 exactly.
		{theta, 3, 1, []int64{1, 2, 3}, false}, {theta, 3, 1, []int64{-1, 0, 1}, false}, {theta, 4, 1, []int64{1, 2, 3}, true},
		{theta, 14, 1, []int64{11, 12, 13}, true}, {theta, 14, 1, []int64{12, 13, 14}, false}, {theta, 14, 1, []int64{0, 13, 12}, true},
		// They differ by d at least, and by k - d at most.
		{theta, 6, 2, []int64{0, 2, 4}, true}, {theta, 6, 2, []int64{5, 1, 3}, true}, {theta, 6, 2, []int64{0, 2, 5}, false},
		{theta, 6, 2, []int64{0, 1, 3}, false}, {theta, 6, 2, []int64{0, 3, 4}, false}, {theta, 7, 2, []int64{0, 2, 5}, true},
		{theta, 7, 2, []int64{0, 3, 5}, true}, {theta, 7, 2, []int64{0, 2, 6}, false}, {theta, 7, 2, []int64{6, 1, 3}, true},
		{theta, 14, 4, []int64{0, 4, 8}, true}, {theta, 14, 4, []int64{0, 5, 10}, true}, {theta, 14, 4, []int64{0, 5, 11}, false},
		{theta, 14, 4, []int64{3, 0, 8}, false}, {theta, 14, 4, []int64{13, 3, 8}, true},
		// Just two numbers are half a circle apart.
		{theta, 2, 1, []int64{0, 1, 0}, false}, {theta, 2, 1, []int64{0, 1, 2}, false}, {theta, 14, 7, []int64{0, 7, 13}, false},
		{theta, 14, 7, []int64{0, 7, 14}, false}, {theta, 4, 2, []int64{0, 2, 0}, false}, {theta, 5, 2, []int64{0, 2, 4}, false},
		// Numbers that are far away.
		{theta, 3, 1, []int64{0, 1, 1<<63 - 1}, false}, {theta, 3, 1, []int64{-1 << 63, 1, 1<<63 - 1}, false},
		{theta, 9, 3, []int64{-1 << 63, 0, 3}, false}, {theta, 3, 1, []int64{0, 1<<32 + 1, 2}, false}, {theta, 3, 1, []int64{-3, -2, -1}, false},
		{k4, 3, 1, []int64{0, 1, 2, 2, 1, 0}, true}, {k4, 3, 1, []int64{0, 1, 2, 2, 0, 1}, false}, {k4, 6, 1, []int64{0, 1, 2, 3, 4, 5}, true},
		{k4, 5, 1, []int64{0, 1, 2, 3, 4, 5}, false}, {k4, 6, 2, []int64{0, 2, 4, 4, 2, 0}, true}, {k4, 7, 2, []int64{0, 2, 4, 5, 2, 0}, true},
		{k4, 7, 2, []int64{0, 2, 4, 4, 2, 1}, false}, {k4, 7, 2, []int64{0, 2, 4, 4, 2, 6}, true},
		// Edges that are close only by another one may have the same number.
		{parsed(t, leastBridge), 4, 1, []int64{0, 1, 2, 3, 0, 1, 2, 0, 3}, true},
		{parsed(t, leastBridge), 4, 1, []int64{0, 1, 2, 3, 1, 1, 2, 0, 3}, false},
		{named(t, "petersen"), 11, 3, []int64{0, 3, 6, 3, 8, 6, 9, 10, 2, 7, 1, 9, 5, 0, 4}, true},
		{named(t, "petersen"), 11, 3, []int64{0, 3, 6, 3, 8, 6, 9, 10, 2, 7, 1, 9, 5, 0, 3}, false},
		{thetas(t, 2), 6, 2, []int64{0, 2, 4, 5, 3, 1}, true}, {thetas(t, 2), 6, 2, []int64{0, 2, 4, 5, 3, 2}, false},
		{thetas(t, 10), 3, 1, slices.Repeat([]int64{0, 1, 2}, 10), true}, {thetas(t, 10), 9, 3, slices.Repeat([]int64{7, 1, 4}, 10), true},
	} {
		if yes, code := impl.IsCircular(c.g, c.k, c.d, c.list); yes != c.want || code != impl.ErrNone {
			t.Errorf("IsCircular(%v, %d, %d, %v) = %v, %d", c.g, c.k, c.d, c.list, yes, code)
		}
	}
}

// eachCircle calls with each k up to a greatest one and each d for which there may be circular colourings.
func eachCircle(greatest int64, call func(k int64, d int64)) {
	for k := int64(2); k <= greatest; k++ {
		for d := int64(1); 2*d <= k; d++ {
			call(k, d)
		}
	}
}

// All lists of numbers from -1 to k. The first one that is a circular colouring is the least one.
func TestCircularColouringsAmongAllLists(t *testing.T) {
	for _, c := range []struct {
		g        impl.Graph
		greatest int64
	}{{named(t, "theta"), impl.MaxCircle}, {named(t, "k4"), 4}, {parsed(t, twoDoubles), 4}, {thetas(t, 2), 4}} {
		eachCircle(c.greatest, func(k int64, d int64) {
			var least []int64
			allValues(len(c.g.Edges), -1, k, func(list []int64) {
				yes, code := impl.IsCircular(c.g, k, d, list)
				if yes != refIsCircular(c.g, k, d, list) || code != impl.ErrNone {
					t.Fatalf("IsCircular(%v, %d, %d, %v) = %v, %d", c.g, k, d, list, yes, code)
				}
				if yes && len(least) == 0 {
					least = slices.Clone(list)
				}
			})
			checkCircular(t, c.g, k, d, least)
		})
	}
}

// checkCircular compares with the least circular colouring, which is empty if there is none.
func checkCircular(t *testing.T, g impl.Graph, k int64, d int64, want []int64) {
	t.Helper()
	wanted := int64(impl.ErrNone)
	if len(want) == 0 {
		wanted = impl.ErrNotFound
	}
	if list, code := impl.CircularOf(g, k, d); !slices.Equal(list, want) || code != wanted {
		t.Errorf("CircularOf(%v, %d, %d) = %v, %d, not %v", g, k, d, list, code, want)
	}
}

func TestCircularOf(t *testing.T) {
	theta, k4, petersen, least := named(t, "theta"), named(t, "k4"), named(t, "petersen"), parsed(t, leastBridge)
	for _, c := range []struct {
		g    impl.Graph
		k, d int64
		want []int64
	}{
		{theta, 3, 1, []int64{0, 1, 2}}, {theta, 14, 1, []int64{0, 1, 2}}, {theta, 6, 2, []int64{0, 2, 4}}, {theta, 14, 4, []int64{0, 4, 8}},
		{theta, 2, 1, nil}, {theta, 4, 2, nil}, {theta, 5, 2, nil}, {theta, 14, 5, nil}, {theta, 14, 7, nil}, {theta, 12, 4, []int64{0, 4, 8}},
		{k4, 3, 1, []int64{0, 1, 2, 2, 1, 0}}, {k4, 14, 4, []int64{0, 4, 8, 8, 4, 0}}, {k4, 8, 3, nil}, {k4, 2, 1, nil},
		{named(t, "k33"), 3, 1, []int64{0, 1, 2, 1, 2, 0, 2, 0, 1}},
		// With a number more there are lesser ones.
		{named(t, "k33"), 4, 1, []int64{0, 1, 2, 1, 0, 3, 2, 3, 0}}, {named(t, "k33"), 14, 3, []int64{0, 3, 6, 3, 0, 9, 6, 9, 0}},
		{named(t, "k33"), 7, 2, []int64{0, 2, 4, 2, 4, 0, 4, 0, 2}},
		// 11 and 3 are the least of their kind.
		{petersen, 3, 1, nil}, {petersen, 7, 2, nil}, {petersen, 13, 4, nil}, {petersen, 14, 4, nil}, {petersen, 10, 3, nil},
		{petersen, 11, 3, []int64{0, 3, 6, 3, 8, 6, 9, 10, 2, 7, 1, 9, 5, 0, 4}},
		{petersen, 4, 1, []int64{0, 1, 2, 1, 2, 0, 2, 2, 1, 0, 0, 3, 0, 1, 3}},
		// Where there is a bridge less than four times d are too few.
		{least, 3, 1, nil}, {least, 11, 3, nil}, {least, 14, 4, nil}, {least, 4, 1, []int64{0, 1, 2, 3, 0, 1, 2, 0, 3}},
		{least, 8, 2, []int64{0, 2, 4, 6, 0, 2, 4, 0, 6}}, {least, 14, 3, []int64{0, 3, 6, 9, 0, 3, 6, 0, 9}},
		{thetas(t, 5), 9, 3, slices.Repeat([]int64{0, 3, 6}, 5)}, {thetas(t, 5), 8, 3, nil},
		{beside(t, theta, k4), 7, 2, []int64{0, 2, 4, 0, 2, 4, 4, 2, 0}},
		{beside(t, theta, least), 14, 4, nil}, {beside(t, least, theta), 11, 3, nil}, {beside(t, k4, least), 14, 4, nil},
		{beside(t, least, theta), 4, 1, []int64{0, 1, 2, 3, 0, 1, 2, 0, 3, 0, 1, 2}},
	} {
		checkCircular(t, c.g, c.k, c.d, c.want)
	}
}

// Parts whose vertices come in turn, one of them without such colourings, do not make it long.
func TestCircularColouringsOfPartsInTurn(t *testing.T) {
	least := parsed(t, leastBridge)
	for _, g := range []impl.Graph{beside(t, thetas(t, 2), least), beside(t, least, named(t, "k4")), beside(t, named(t, "theta"), parsed(t, rowOfBridges))} {
		for _, step := range []int64{1, 3, 7, 9} {
			p := make([]int64, 10)
			for v := range p {
				p[v] = int64(v) * step % 10
			}
			made, code := impl.RenumberGraph(g, p)
			if code != impl.ErrNone {
				t.Fatalf("RenumberGraph(%v, %v): code %d", g, p, code)
			}
			checkCircular(t, made, 14, 4, nil)
			checkCircular(t, made, 11, 3, nil)
			checkCircular(t, made, 12, 3, refCircular(made, 12, 3))
		}
	}
}

// A numbersCase is a list of numbers and whether it is a colouring for k.
type numbersCase struct {
	g    impl.Graph
	k    int64
	list []int64
	want bool
}

func TestIsStrong(t *testing.T) {
	theta, k4, least := named(t, "theta"), named(t, "k4"), parsed(t, leastBridge)
	for _, c := range []numbersCase{
		{theta, 3, []int64{0, 1, 2}, true}, {theta, 3, []int64{2, 0, 1}, true}, {theta, 3, []int64{0, 1, 1}, false},
		// Numbers go up to k - 1 exactly.
		{theta, 2, []int64{0, 1, 2}, false}, {theta, 3, []int64{1, 2, 3}, false}, {theta, 4, []int64{1, 2, 3}, true}, {theta, 1, []int64{0, 0, 0}, false},
		{theta, 20, []int64{17, 18, 19}, true}, {theta, 20, []int64{18, 19, 20}, false}, {theta, 20, []int64{0, 1, -1}, false},
		{theta, 20, []int64{0, 1, 1<<63 - 1}, false}, {theta, 20, []int64{-1 << 63, 0, 1}, false},
		// Edges that are close only by another one.
		{k4, 6, []int64{0, 1, 2, 3, 4, 5}, true}, {k4, 6, []int64{5, 4, 3, 2, 1, 0}, true}, {k4, 5, []int64{0, 1, 2, 3, 4, 5}, false},
		{k4, 6, []int64{0, 1, 2, 3, 4, 0}, false}, {k4, 20, []int64{0, 1, 2, 2, 3, 4}, false}, {k4, 3, []int64{0, 1, 2, 2, 1, 0}, false},
		{least, 5, []int64{0, 1, 2, 3, 4, 0, 1, 2, 3}, true}, {least, 4, []int64{0, 1, 2, 3, 4, 0, 1, 2, 3}, false},
		{least, 6, []int64{0, 1, 2, 3, 4, 2, 1, 0, 5}, false}, {least, 6, []int64{0, 1, 2, 3, 4, 5, 1, 0, 3}, true}, {least, 6, []int64{0, 1, 2, 3, 0, 4, 1, 5, 2}, false},
		{named(t, "petersen"), 5, []int64{0, 1, 2, 3, 4, 2, 1, 4, 0, 3, 4, 3, 1, 2, 0}, true},
		{named(t, "petersen"), 5, []int64{0, 1, 2, 3, 4, 2, 1, 4, 0, 3, 4, 3, 1, 0, 2}, false},
		{thetas(t, 10), 3, slices.Repeat([]int64{1, 0, 2}, 10), true}, {thetas(t, 10), 20, append(slices.Repeat([]int64{1, 0, 2}, 9), 5, 7, 5), false},
		{cubicLadder(20), 5, slices.Repeat([]int64{0, 1, 2, 3, 4, 2}, 5), false},
	} {
		if yes, code := impl.IsStrong(c.g, c.k, c.list); yes != c.want || code != impl.ErrNone {
			t.Errorf("IsStrong(%v, %d, %v) = %v, %d", c.g, c.k, c.list, yes, code)
		}
	}
}

func TestIsTotal(t *testing.T) {
	theta, k33, least := named(t, "theta"), named(t, "k33"), parsed(t, leastBridge)
	edges := []int64{2, 3, 4, 3, 4, 2, 4, 2, 3}
	for _, c := range []numbersCase{
		{theta, 5, []int64{0, 1, 2, 3, 4}, true}, {theta, 5, []int64{4, 2, 3, 0, 1}, true}, {theta, 4, []int64{0, 1, 2, 3, 4}, false},
		// The vertices, which an edge joins, an edge and one of its vertices, two edges.
		{theta, 5, []int64{0, 0, 2, 3, 4}, false}, {theta, 5, []int64{0, 1, 0, 3, 4}, false}, {theta, 5, []int64{0, 1, 2, 3, 1}, false}, {theta, 5, []int64{0, 1, 2, 2, 4}, false},
		{theta, 5, []int64{1, 2, 3, 4, 5}, false}, {theta, 6, []int64{1, 2, 3, 4, 5}, true}, {theta, 6, []int64{-1, 2, 3, 4, 5}, false},
		{theta, 20, []int64{15, 16, 17, 18, 19}, true}, {theta, 20, []int64{16, 17, 18, 19, 20}, false},
		{theta, 20, []int64{0, 1, 2, 3, 1<<63 - 1}, false}, {theta, 20, []int64{-1 << 63, 1, 2, 3, 4}, false}, {theta, 1, []int64{0, 0, 0, 0, 0}, false},
		// The vertices stand before the edges.
		{k33, 5, append([]int64{0, 0, 0, 1, 1, 1}, edges...), true}, {k33, 5, append(slices.Clone(edges), 0, 0, 0, 1, 1, 1), false},
		{k33, 5, append([]int64{0, 0, 1, 0, 1, 1}, edges...), false}, {k33, 5, append([]int64{0, 0, 2, 1, 1, 1}, edges...), false}, {k33, 6, append([]int64{0, 0, 5, 1, 1, 1}, edges...), true},
		// Edges that are close only by another one may have the same number, as may vertices that no edge joins.
		{least, 4, []int64{3, 2, 1, 3, 2, 1, 0, 1, 2, 3, 0, 1, 2, 0, 3}, true}, {least, 4, []int64{3, 2, 0, 3, 2, 1, 0, 1, 2, 3, 0, 1, 2, 0, 3}, false},
		{thetas(t, 10), 5, slices.Concat(slices.Repeat([]int64{3, 4}, 10), slices.Repeat([]int64{0, 1, 2}, 10)), true},
		{thetas(t, 10), 5, slices.Concat(slices.Repeat([]int64{3, 4}, 9), []int64{3, 2}, slices.Repeat([]int64{0, 1, 2}, 10)), false},
		{cubicLadder(20), 5, slices.Concat(slices.Repeat([]int64{3, 4}, 10), slices.Repeat([]int64{0}, 30)), false},
	} {
		if yes, code := impl.IsTotal(c.g, c.k, c.list); yes != c.want || code != impl.ErrNone {
			t.Errorf("IsTotal(%v, %d, %v) = %v, %d", c.g, c.k, c.list, yes, code)
		}
	}
}

func TestStrongAndTotalNumbers(t *testing.T) {
	least, petersen := parsed(t, leastBridge), named(t, "petersen")
	for _, c := range []struct {
		why           string
		g             impl.Graph
		strong, total int64
	}{
		{"two vertices", named(t, "theta"), 3, 5},
		{"all pairs of four", named(t, "k4"), 6, 5},
		{"equal edges", parsed(t, twoDoubles), 6, 5},
		{"three with three", named(t, "k33"), 9, 5},
		{"two triangles", named(t, "prism"), 9, 4},
		{"a cube", named(t, "cube"), 6, 4},
		{"a ring of eight", cubicRing(8), 10, 5},
		{"a ring of ten", cubicRing(10), 8, 5},
		{"a snark", petersen, 5, 4},
		{"a bridge", least, 5, 4},
		{"a bridge between greater sides", named(t, "bridge"), 7, 4},
		{"a row of bridges", parsed(t, rowOfBridges), 5, 4},
		{"three bridges", parsed(t, threeBridges), 5, 4},
		{"ten vertices with equal edges", cubicLadder(10), 5, 5},
		{"five parts", thetas(t, 5), 3, 5},
		{"the greater number first", beside(t, named(t, "k33"), named(t, "k4")), 9, 5},
		{"the greater number last", beside(t, named(t, "k4"), named(t, "k33")), 9, 5},
		{"the greater total number first", beside(t, named(t, "theta"), named(t, "cube")), 6, 5},
		{"the greater total number last", beside(t, named(t, "cube"), named(t, "theta")), 6, 5},
	} {
		strong, a := impl.StrongNumber(c.g)
		total, b := impl.TotalNumber(c.g)
		if strong != c.strong || total != c.total || a != impl.ErrNone || b != impl.ErrNone {
			t.Errorf("%s: StrongNumber = %d, %d, TotalNumber = %d, %d", c.why, strong, a, total, b)
		}
	}
}

// All lists of numbers from -1 to k, for k as great as the number, and for k less by one.
func TestStrongColouringsAmongAllLists(t *testing.T) {
	for _, g := range []impl.Graph{named(t, "theta"), named(t, "k4"), parsed(t, twoDoubles), thetas(t, 2)} {
		number, code := impl.StrongNumber(g)
		if code != impl.ErrNone {
			t.Fatalf("StrongNumber(%v): code %d", g, code)
		}
		for k := number - 1; k <= number; k++ {
			found := 0
			allValues(len(g.Edges), -1, k, func(list []int64) {
				yes, code := impl.IsStrong(g, k, list)
				if yes != refIsStrong(g, k, list) || code != impl.ErrNone {
					t.Fatalf("IsStrong(%v, %d, %v) = %v, %d", g, k, list, yes, code)
				}
				if yes {
					found++
				}
			})
			if (found > 0) != (k == number) {
				t.Errorf("%v has %d strong colourings for %d", g, found, k)
			}
		}
	}
}

func TestTotalColouringsAmongAllLists(t *testing.T) {
	theta := named(t, "theta")
	for k := int64(1); k <= 6; k++ {
		found := 0
		allValues(5, -1, k, func(list []int64) {
			yes, code := impl.IsTotal(theta, k, list)
			if yes != refIsTotal(theta, k, list) || code != impl.ErrNone {
				t.Fatalf("IsTotal(theta, %d, %v) = %v, %d", k, list, yes, code)
			}
			if yes {
				found++
			}
		})
		// All five are different.
		if want := map[int64]int{5: 120, 6: 720}[k]; found != want {
			t.Errorf("%d total colourings for %d", found, k)
		}
	}
}
