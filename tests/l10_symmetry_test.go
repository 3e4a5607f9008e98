package tests

import (
	"slices"
	"testing"

	"loop.example/g01329/impl"
)

// The texts of connected graphs: one with 216 automorphisms, and one of 12 vertices with one alone.
const pappus = "18:0-1,0-5,0-17,1-2,1-8,2-3,2-13,3-4,3-10,4-5,4-15,5-6,6-7,6-11,7-8,7-14,8-9,9-10,9-16,10-11,11-12,12-13,12-17,13-14,14-15,15-16,16-17"
const frucht = "12:0-1,0-7,0-11,1-2,1-11,2-3,2-10,3-4,3-5,4-5,4-9,5-6,6-7,6-8,7-8,8-9,9-10,10-11"

// The texts of graphs that are trees with small graphs at the ends of bridges, named by their numbers of automorphisms. Each end has
// 2 or 4 of its own, and equal ends can be exchanged. In the last one the middle of the tree is two vertices with three neighbours.
const hung256 = "18:0-1,0-3,0-6,1-2,1-9,2-12,2-15,3-4,3-5,4-5,4-5,6-7,6-8,7-8,7-8,9-10,9-11,10-11,10-11,12-13,12-14,13-14,13-14,15-16,15-17,16-17,16-17"
const hung384 = "16:0-1,0-6,0-11,1-2,1-3,2-4,2-5,3-4,3-5,4-5,6-7,6-8,7-9,7-10,8-9,8-10,9-10,11-12,11-13,12-14,12-15,13-14,13-15,14-15"
const hung512 = "20:0-1,0-3,0-6,1-2,1-15,2-9,2-12,3-4,3-5,4-5,4-5,6-7,6-8,7-8,7-8,9-10,9-11,10-11,10-11,12-13,12-14,13-14,13-14,15-16,15-17,16-18,16-19,17-18,17-19,18-19"
const hung768 = "20:0-2,0-8,0-14,1-2,1-8,1-14,2-3,3-4,3-5,4-6,4-7,5-6,5-7,6-7,8-9,9-10,9-11,10-12,10-13,11-12,11-13,12-13,14-15,15-16,15-17,16-18,16-19,17-18,17-19,18-19"

// The text of one of the least graphs with one automorphism alone. It has equal edges.
const stiff = "10:0-2,0-3,0-9,1-3,1-5,1-5,2-4,2-8,3-9,4-5,4-7,6-7,6-7,6-8,8-9"

// The text of twoDoubles with other vertices on the equal edges.
const otherDoubles = "4:0-1,0-2,0-2,1-3,1-3,2-3"

// The text of leastBridge with the bridge between the vertices 0 and 1.
const bridgeFirst = "6:0-1,0-2,0-3,1-4,1-5,2-3,2-3,4-5,4-5"

// spokes returns the graph of a ring of n vertices, each joined with one more, those being joined by steps of k.
func spokes(n int64, k int64) impl.Graph {
	var edges []impl.Edge
	for v := range n {
		edges = append(edges, impl.Edge{v, (v + 1) % n}, impl.Edge{v, v + n}, impl.Edge{v + n, (v+k)%n + n})
	}
	return impl.Graph{Size: 2 * n, Edges: sorted(edges)}
}

func TestSymmetryLimit(t *testing.T) {
	if impl.MaxAutomorphisms != 240 {
		t.Error("MaxAutomorphisms", impl.MaxAutomorphisms)
	}
}

func TestLeadsTo(t *testing.T) {
	theta, k4, k33, prism, two := named(t, "theta"), named(t, "k4"), named(t, "k33"), named(t, "prism"), thetas(t, 2)
	doubles, others, least := parsed(t, twoDoubles), parsed(t, otherDoubles), parsed(t, leastBridge)
	for _, c := range []struct {
		why  string
		g, h impl.Graph
		list []int64
		want bool
	}{
		{"theta stays", theta, theta, []int64{0, 1}, true},
		{"theta is turned", theta, theta, []int64{1, 0}, true},
		{"k4 in any way", k4, k4, []int64{2, 3, 1, 0}, true},
		{"both kinds exchanged", k33, k33, []int64{3, 4, 5, 1, 0, 2}, true},
		{"one of each kind exchanged", k33, k33, []int64{3, 1, 2, 0, 4, 5}, false},
		{"triangles turned", prism, prism, []int64{1, 2, 0, 4, 5, 3}, true},
		{"triangles exchanged", prism, prism, []int64{3, 5, 4, 0, 2, 1}, true},
		{"one triangle turned", prism, prism, []int64{1, 2, 0, 3, 4, 5}, false},
		{"not isomorphic", prism, k33, []int64{0, 1, 2, 3, 4, 5}, false},
		{"equal edges stay", doubles, doubles, []int64{0, 1, 2, 3}, true},
		{"equal edges exchanged", doubles, doubles, []int64{3, 2, 1, 0}, true},
		{"equal edges where one was", doubles, doubles, []int64{0, 2, 1, 3}, false},
		{"equal edges to others", doubles, others, []int64{0, 2, 1, 3}, true},
		{"back", others, doubles, []int64{0, 2, 1, 3}, true},
		{"the same pairs, not as often", doubles, others, []int64{0, 1, 2, 3}, false},
		{"it leads the other way round", least, parsed(t, bridgeFirst), []int64{3, 4, 0, 1, 5, 2}, false},
		{"it leads there", least, parsed(t, bridgeFirst), []int64{4, 5, 1, 0, 3, 2}, true},
		{"the inverse leads back", parsed(t, bridgeFirst), least, []int64{3, 2, 5, 4, 0, 1}, true},
		{"parts stay", two, two, []int64{0, 1, 2, 3}, true},
		{"parts exchanged", two, two, []int64{3, 2, 0, 1}, true},
		{"parts torn", two, two, []int64{0, 2, 1, 3}, false},
		{"parts to parts", two, parsed(t, "4:0-2,0-2,0-2,1-3,1-3,1-3"), []int64{2, 0, 1, 3}, true},
		{"parts of different kinds", beside(t, theta, k4), beside(t, k4, theta), []int64{5, 4, 3, 2, 1, 0}, true},
		{"parts of different kinds stay", beside(t, theta, k4), beside(t, k4, theta), []int64{0, 1, 2, 3, 4, 5}, false},
		{"connected to parts", k4, two, []int64{0, 1, 2, 3}, false},
		{"parts to connected", two, k4, []int64{0, 1, 2, 3}, false},
	} {
		if yes, code := impl.LeadsTo(c.g, c.h, c.list); yes != c.want || code != impl.ErrNone {
			t.Errorf("%s: LeadsTo by %v = %v, %d", c.why, c.list, yes, code)
		}
	}
}

func TestFindRenumbering(t *testing.T) {
	theta, k33, cube, petersen := named(t, "theta"), named(t, "k33"), named(t, "cube"), named(t, "petersen")
	doubles, others, least := parsed(t, twoDoubles), parsed(t, otherDoubles), parsed(t, leastBridge)
	for _, c := range []struct {
		why  string
		g, h impl.Graph
		want []int64
	}{
		{"a graph and itself", theta, theta, []int64{0, 1}},
		{"one of 24", named(t, "k4"), named(t, "k4"), []int64{0, 1, 2, 3}},
		{"one of 120", petersen, petersen, numbersUpTo(10)},
		{"one alone", parsed(t, frucht), parsed(t, frucht), numbersUpTo(12)},
		{"one of 768", parsed(t, hung768), parsed(t, hung768), numbersUpTo(20)},
		{"one of 72", k33, cubicRing(6), []int64{0, 2, 4, 1, 3, 5}},
		{"and back", cubicRing(6), k33, []int64{0, 3, 1, 4, 2, 5}},
		{"one of 48", cube, spokes(4, 1), []int64{0, 1, 3, 2, 4, 5, 7, 6}},
		{"one of 4", doubles, others, []int64{0, 2, 1, 3}},
		{"the first vertex is not kept", least, parsed(t, bridgeFirst), []int64{2, 3, 0, 1, 4, 5}},
		{"and back", parsed(t, bridgeFirst), least, []int64{2, 3, 0, 1, 4, 5}},
		{"the first vertex becomes the last", reversed(t, frucht), parsed(t, frucht), []int64{11, 10, 9, 8, 7, 6, 5, 4, 3, 2, 1, 0}},
	} {
		if list, code := impl.FindRenumbering(c.g, c.h); !slices.Equal(list, c.want) || code != impl.ErrNone {
			t.Errorf("%s: FindRenumbering = %v, %d, not %v", c.why, list, code, c.want)
		}
		if same, code := impl.AreIsomorphic(c.g, c.h); !same || code != impl.ErrNone {
			t.Errorf("%s: AreIsomorphic = %v, %d", c.why, same, code)
		}
	}
}

// reversed returns the graph with a text, with the numbers of its vertices in descending order.
func reversed(t *testing.T, text string) impl.Graph {
	t.Helper()
	g := parsed(t, text)
	list := numbersUpTo(int(g.Size))
	slices.Reverse(list)
	return impl.Graph{Size: g.Size, Edges: refImages(g, list)}
}

// Graphs of different Sizes are not isomorphic, and nothing is wrong with them.
func TestGraphsThatAreNotIsomorphic(t *testing.T) {
	k4, k33, prism, cube := named(t, "k4"), named(t, "k33"), named(t, "prism"), named(t, "cube")
	for _, c := range []struct {
		why  string
		g, h impl.Graph
	}{
		{"a lesser and a greater Size", named(t, "theta"), k4},
		{"the least and the greatest Size", named(t, "theta"), cubicRing(20)},
		{"Sizes by 2 apart", named(t, "petersen"), named(t, "tietze")},
		{"no triangle, and two", k33, prism},
		{"equal edges, and none", parsed(t, twoDoubles), k4},
		{"two pairs of equal edges in both", cubicLadder(6), parsed(t, leastBridge)},
		{"bipartite or not", cube, cubicRing(8)},
		{"a bridge, and none", named(t, "petersen"), named(t, "bridge")},
		// Girths, diameters, distances, colourings and matchings are as many as each other.
		{"alike in all numbers", parsed(t, "14:0-6,0-8,0-12,1-2,1-9,1-10,2-3,2-7,3-4,3-6,4-10,4-12,5-8,5-12,5-13,6-13,7-9,7-11,8-9,10-11,11-13"),
			parsed(t, "14:0-7,0-10,0-12,1-5,1-8,1-11,2-4,2-5,2-11,3-4,3-6,3-13,4-12,5-7,6-9,6-12,7-13,8-10,8-13,9-10,9-11")},
		{"pairs of equal edges in turn, and not", parsed(t, "8:0-1,0-1,0-2,1-3,2-3,2-4,3-5,4-6,4-6,5-7,5-7,6-7"), cubicLadder(8)},
		{"the ring, and steps of 3", cubicRing(20), spokes(10, 3)},
		{"steps of 2 and of 3", spokes(10, 2), spokes(10, 3)},
	} {
		for i, pair := range [][2]impl.Graph{{c.g, c.h}, {c.h, c.g}} {
			if same, code := impl.AreIsomorphic(pair[0], pair[1]); same || code != impl.ErrNone {
				t.Errorf("%s (%d): AreIsomorphic = %v, %d", c.why, i, same, code)
			}
			if list, code := impl.FindRenumbering(pair[0], pair[1]); len(list) != 0 || code != impl.ErrNotFound {
				t.Errorf("%s (%d): FindRenumbering = %v, %d", c.why, i, list, code)
			}
		}
	}
}

// automorphismCases are connected graphs with their numbers of automorphisms.
func automorphismCases(t *testing.T) []numberCase {
	t.Helper()
	return []numberCase{
		{"theta", named(t, "theta"), 2},
		{"k4", named(t, "k4"), 24},
		{"k33", named(t, "k33"), 72},
		{"prism", named(t, "prism"), 12},
		{"cube", named(t, "cube"), 48},
		{"petersen", named(t, "petersen"), 120},
		{"tietze", named(t, "tietze"), 12},
		{"flower5", named(t, "flower5"), 20},
		{"bridge", named(t, "bridge"), 32},
		{"two pairs of equal edges", parsed(t, twoDoubles), 4},
		{"two triangles with equal edges and a bridge", parsed(t, leastBridge), 8},
		{"three bridges", parsed(t, threeBridges), 48},
		{"one alone", parsed(t, frucht), 1},
		{"one alone, with equal edges", parsed(t, stiff), 1},
		{"dodecahedron", parsed(t, dodecahedron), 120},
		{"steps of 3 in a ring of 8", spokes(8, 3), 96},
		{"pappus", parsed(t, pappus), 216},
		{"steps of 3 in a ring of 10", spokes(10, 3), 240},
		{"heawood", parsed(t, heawood), 336},
		{"ends at a tree", parsed(t, hung256), 256},
		{"three ends", parsed(t, hung384), 384},
		{"an end unlike the others", parsed(t, hung512), 512},
		{"three ends at two vertices", parsed(t, hung768), 768},
	}
}

func TestCountAutomorphisms(t *testing.T) {
	checkNumbers(t, "CountAutomorphisms", impl.CountAutomorphisms, automorphismCases(t))
}

// A ring of more than 6 vertices with opposite ones joined is turned and mirrored, and so are pairs of equal edges in a ring.
func TestAutomorphismsOfRingsAndLadders(t *testing.T) {
	for n := int64(8); n <= impl.MaxVertices; n += 2 {
		if count, code := impl.CountAutomorphisms(cubicRing(n)); count != 2*n || code != impl.ErrNone {
			t.Errorf("CountAutomorphisms of the ring of %d = %d, %d", n, count, code)
		}
	}
	for n := int64(4); n <= impl.MaxVertices; n += 2 {
		if count, code := impl.CountAutomorphisms(cubicLadder(n)); count != n || code != impl.ErrNone {
			t.Errorf("CountAutomorphisms of the ladder of %d = %d, %d", n, count, code)
		}
	}
}

func TestAutomorphismsOf(t *testing.T) {
	for _, c := range []struct {
		why  string
		g    impl.Graph
		want [][]int64
	}{
		{"theta", named(t, "theta"), [][]int64{{0, 1}, {1, 0}}},
		{"equal edges", parsed(t, twoDoubles), [][]int64{{0, 1, 2, 3}, {1, 0, 3, 2}, {2, 3, 0, 1}, {3, 2, 1, 0}}},
		{"one alone", parsed(t, frucht), [][]int64{numbersUpTo(12)}},
		{"prism", named(t, "prism"), [][]int64{{0, 1, 2, 3, 4, 5}, {0, 2, 1, 3, 5, 4}, {1, 0, 2, 4, 3, 5}, {1, 2, 0, 4, 5, 3}, {2, 0, 1, 5, 3, 4}, {2, 1, 0, 5, 4, 3},
			{3, 4, 5, 0, 1, 2}, {3, 5, 4, 0, 2, 1}, {4, 3, 5, 1, 0, 2}, {4, 5, 3, 1, 2, 0}, {5, 3, 4, 2, 0, 1}, {5, 4, 3, 2, 1, 0}}},
		{"a bridge", parsed(t, leastBridge), [][]int64{{0, 1, 2, 3, 4, 5}, {0, 1, 2, 3, 5, 4}, {1, 0, 2, 3, 4, 5}, {1, 0, 2, 3, 5, 4},
			{4, 5, 3, 2, 0, 1}, {4, 5, 3, 2, 1, 0}, {5, 4, 3, 2, 0, 1}, {5, 4, 3, 2, 1, 0}}},
	} {
		if lists, code := impl.AutomorphismsOf(c.g); !sameParts(lists, c.want) || code != impl.ErrNone {
			t.Errorf("%s: AutomorphismsOf = %v, %d, not %v", c.why, lists, code, c.want)
		}
	}
	var all [][]int64
	eachRenumbering(4, func(list []int64) { all = append(all, slices.Clone(list)) })
	if lists, code := impl.AutomorphismsOf(named(t, "k4")); !sameParts(lists, all) || len(lists) != 24 || code != impl.ErrNone {
		t.Errorf("k4: AutomorphismsOf = %v, %d", lists, code)
	}
}

// All of MaxAutomorphisms are listed, and none of more.
func TestLimitOfAutomorphisms(t *testing.T) {
	for _, c := range automorphismCases(t) {
		lists, code := impl.AutomorphismsOf(c.g)
		if c.want > 240 {
			if len(lists) != 0 || code != impl.ErrLimit {
				t.Errorf("%s: AutomorphismsOf = %v, %d", c.why, lists, code)
			}
			continue
		}
		if int64(len(lists)) != c.want || code != impl.ErrNone || !slices.IsSortedFunc(lists, slices.Compare[[]int64]) || !slices.Equal(lists[0], numbersUpTo(int(c.g.Size))) {
			t.Errorf("%s: AutomorphismsOf = %v, %d", c.why, lists, code)
		}
	}
}

func TestOrbits(t *testing.T) {
	for _, c := range []struct {
		why             string
		g               impl.Graph
		vertices, edges [][]int64
	}{
		{"theta", named(t, "theta"), [][]int64{{0, 1}}, [][]int64{{0, 1, 2}}},
		{"k4", named(t, "k4"), [][]int64{{0, 1, 2, 3}}, [][]int64{{0, 1, 2, 3, 4, 5}}},
		{"petersen", named(t, "petersen"), [][]int64{numbersUpTo(10)}, [][]int64{numbersUpTo(15)}},
		{"prism", named(t, "prism"), [][]int64{{0, 1, 2, 3, 4, 5}}, [][]int64{{0, 1, 3, 6, 7, 8}, {2, 4, 5}}},
		{"pairs of equal edges", parsed(t, twoDoubles), [][]int64{{0, 1, 2, 3}}, [][]int64{{0, 1, 4, 5}, {2, 3}}},
		{"equal edges not first", parsed(t, otherDoubles), [][]int64{{0, 1, 2, 3}}, [][]int64{{0, 5}, {1, 2, 3, 4}}},
		{"a bridge", parsed(t, leastBridge), [][]int64{{0, 1, 4, 5}, {2, 3}}, [][]int64{{0, 1, 7, 8}, {2, 3, 5, 6}, {4}}},
		{"a bridge first", parsed(t, bridgeFirst), [][]int64{{0, 1}, {2, 3, 4, 5}}, [][]int64{{0}, {1, 2, 3, 4}, {5, 6, 7, 8}}},
		{"the graph bridge", named(t, "bridge"), [][]int64{{0, 1, 5, 6}, {2, 3, 7, 8}, {4, 9}}, [][]int64{{0, 1, 3, 4, 8, 9, 11, 12}, {2, 5, 10, 13}, {6, 14}, {7}}},
		{"flower5", named(t, "flower5"), [][]int64{{0, 1, 2, 3, 4}, {5, 6, 7, 8, 9}, {10, 11, 12, 13, 14, 15, 16, 17, 18, 19}},
			[][]int64{{0, 3, 6, 9, 12}, {1, 2, 4, 5, 7, 8, 10, 11, 13, 14}, {15, 16, 17, 18, 19}, {20, 21, 22, 23, 24, 25, 26, 27, 28, 29}}},
		{"tietze", named(t, "tietze"), [][]int64{{0, 10, 11}, {1, 4, 5}, {2, 3, 6, 7, 8, 9}},
			[][]int64{{0, 10, 13}, {1, 2, 17}, {3, 4, 7, 9, 11, 12}, {5, 6, 8, 14, 15, 16}}},
	} {
		if lists, code := impl.VertexOrbits(c.g); !sameParts(lists, c.vertices) || code != impl.ErrNone {
			t.Errorf("%s: VertexOrbits = %v, %d, not %v", c.why, lists, code, c.vertices)
		}
		if lists, code := impl.EdgeOrbits(c.g); !sameParts(lists, c.edges) || code != impl.ErrNone {
			t.Errorf("%s: EdgeOrbits = %v, %d, not %v", c.why, lists, code, c.edges)
		}
	}
}

// Each vertex and each edge is an orbit of its own, but for equal edges.
func TestOrbitsOfOneAlone(t *testing.T) {
	for _, text := range []string{frucht, stiff} {
		g := parsed(t, text)
		vertices, a := impl.VertexOrbits(g)
		edges, b := impl.EdgeOrbits(g)
		if !sameParts(vertices, refOrbits(int(g.Size), nil)) || !sameParts(edges, refOrbits(len(g.Edges), refEdgeImages(g, nil))) || a != impl.ErrNone || b != impl.ErrNone {
			t.Errorf("%s: VertexOrbits = %v, %d, EdgeOrbits = %v, %d", text, vertices, a, edges, b)
		}
	}
}

func TestStabiliserNumber(t *testing.T) {
	for _, c := range []struct {
		why  string
		g    impl.Graph
		v    int64
		want int64
	}{
		{"theta, first", named(t, "theta"), 0, 1},
		{"theta, last", named(t, "theta"), 1, 1},
		{"k4", named(t, "k4"), 2, 6},
		{"k33", named(t, "k33"), 5, 12},
		{"prism", named(t, "prism"), 0, 2},
		{"cube", named(t, "cube"), 7, 6},
		{"petersen", named(t, "petersen"), 9, 12},
		{"tietze, in the triangle", named(t, "tietze"), 11, 4},
		{"tietze, beside it", named(t, "tietze"), 1, 4},
		{"tietze, away from it", named(t, "tietze"), 2, 2},
		{"flower5, in the middle", named(t, "flower5"), 4, 4},
		{"flower5, on the ring of 5", named(t, "flower5"), 5, 4},
		{"flower5, on the ring of 10", named(t, "flower5"), 19, 2},
		{"a bridge, on equal edges", parsed(t, leastBridge), 0, 2},
		{"a bridge, on it", parsed(t, leastBridge), 3, 4},
		{"one alone", parsed(t, frucht), 11, 1},
		{"more than MaxAutomorphisms, the middle", parsed(t, hung384), 0, 384},
		{"more than MaxAutomorphisms, an end", parsed(t, hung384), 15, 64},
		{"more than MaxAutomorphisms, heawood", parsed(t, heawood), 13, 24},
		{"MaxVertices vertices", parsed(t, hung768), 0, 384},
	} {
		if n, code := impl.StabiliserNumber(c.g, c.v); n != c.want || code != impl.ErrNone {
			t.Errorf("%s: StabiliserNumber = %d, %d, not %d", c.why, n, code, c.want)
		}
	}
}

func TestCycleTypeOf(t *testing.T) {
	ring := append(numbersUpTo(20)[1:], 0)
	pairs := numbersUpTo(20)
	for i := 0; i < len(pairs); i += 2 {
		pairs[i], pairs[i+1] = pairs[i+1], pairs[i]
	}
	for _, c := range []struct {
		why  string
		list []int64
		want []int64
	}{
		{"one number", []int64{0}, []int64{1}},
		{"two kept", []int64{0, 1}, []int64{1, 1}},
		{"two exchanged", []int64{1, 0}, []int64{2}},
		{"three turned", []int64{1, 2, 0}, []int64{3}},
		{"three turned back", []int64{2, 0, 1}, []int64{3}},
		{"the middle is kept", []int64{2, 1, 0}, []int64{2, 1}},
		{"a short cycle first", []int64{1, 0, 3, 4, 2}, []int64{3, 2}},
		{"a long cycle first", []int64{1, 2, 0, 4, 3}, []int64{3, 2}},
		{"a kept one first", []int64{0, 2, 3, 4, 5, 1}, []int64{5, 1}},
		{"cycles within each other", []int64{6, 2, 4, 3, 5, 1, 0}, []int64{4, 2, 1}},
		{"equal lengths", []int64{3, 4, 5, 0, 1, 2, 6}, []int64{2, 2, 2, 1}},
		{"an odd number of them", []int64{8, 7, 6, 5, 4, 3, 2, 1, 0}, []int64{2, 2, 2, 2, 1}},
		{"MaxVertices kept", numbersUpTo(20), slices.Repeat([]int64{1}, 20)},
		{"MaxVertices in one cycle", ring, []int64{20}},
		{"MaxVertices in pairs", pairs, slices.Repeat([]int64{2}, 10)},
		{"all of 1 to 5, and one more", []int64{0, 2, 1, 4, 5, 3, 7, 8, 9, 6, 11, 12, 13, 14, 10, 19, 15, 16, 17, 18}, []int64{5, 5, 4, 3, 2, 1}},
		{"one less than MaxVertices", append(numbersUpTo(19)[1:], 0), []int64{19}},
	} {
		if lengths, code := impl.CycleTypeOf(c.list); !slices.Equal(lengths, c.want) || code != impl.ErrNone {
			t.Errorf("%s: CycleTypeOf(%v) = %v, %d, not %v", c.why, c.list, lengths, code, c.want)
		}
	}
}
