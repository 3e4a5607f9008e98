package tests

import (
	"slices"
	"testing"

	"loop.example/g01329/impl"
)

// The texts of graphs with bridges: the least one; one in which a vertex is joined with three others by
// bridges; and one in which two bridges are joined by a pair of equal edges.
const (
	leastBridge  = "6:0-1,0-1,0-2,1-2,2-3,3-4,3-5,4-5,4-5"
	threeBridges = "10:0-1,0-4,0-7,1-2,1-3,2-3,2-3,4-5,4-6,5-6,5-6,7-8,7-9,8-9,8-9"
	rowOfBridges = "8:0-1,0-1,0-2,1-2,2-3,3-4,3-4,4-5,5-6,5-7,6-7,6-7"
)

// allEdges returns the numbers of all edges.
func allEdges(g impl.Graph) []int64 {
	var list []int64
	for e := range g.Edges {
		list = append(list, int64(e))
	}
	return list
}

func TestMaxCut(t *testing.T) {
	if impl.MaxCut != 4 {
		t.Error("MaxCut", impl.MaxCut)
	}
}

func TestBridgesOf(t *testing.T) {
	for _, c := range []struct {
		g    impl.Graph
		want []int64
	}{
		{named(t, "theta"), nil}, {named(t, "k4"), nil}, {named(t, "petersen"), nil}, {named(t, "flower5"), nil},
		{named(t, "bridge"), []int64{7}},
		{parsed(t, leastBridge), []int64{4}},
		{parsed(t, threeBridges), []int64{0, 1, 2}},
		{parsed(t, rowOfBridges), []int64{4, 7}},
		{beside(t, named(t, "theta"), parsed(t, leastBridge)), []int64{7}},
		{beside(t, named(t, "bridge"), named(t, "bridge")), []int64{7, 22}},
		{beside(t, named(t, "k4"), named(t, "k4")), nil},
		{cubicLadder(20), nil}, {cubicRing(20), nil},
	} {
		list, code := impl.BridgesOf(c.g)
		if !slices.Equal(list, c.want) || code != impl.ErrNone {
			t.Errorf("BridgesOf(%v) = %v, %d", c.g, list, code)
		}
	}
}

func TestEdgesLeaving(t *testing.T) {
	for _, c := range []struct {
		g        impl.Graph
		vertices []int64
		want     []int64
	}{
		{named(t, "theta"), nil, nil},
		{named(t, "theta"), []int64{}, nil},
		{named(t, "theta"), []int64{0}, []int64{0, 1, 2}},
		{named(t, "theta"), []int64{1}, []int64{0, 1, 2}},
		{named(t, "theta"), []int64{0, 1}, nil},
		{named(t, "k4"), []int64{3}, []int64{2, 4, 5}},
		{named(t, "k4"), []int64{1, 3}, []int64{0, 2, 3, 5}},
		{named(t, "k4"), []int64{1, 2, 3}, []int64{0, 1, 2}},
		{named(t, "k4"), []int64{0, 1, 2, 3}, nil},
		{named(t, "k33"), []int64{0, 1, 2}, []int64{0, 1, 2, 3, 4, 5, 6, 7, 8}},
		{named(t, "bridge"), []int64{0, 1, 2, 3, 4}, []int64{7}},
		{thetas(t, 2), []int64{0, 1}, nil},
		{thetas(t, 2), []int64{1, 2}, []int64{0, 1, 2, 3, 4, 5}},
		{cubicLadder(20), []int64{19}, []int64{2, 28, 29}},
	} {
		list, code := impl.EdgesLeaving(c.g, c.vertices)
		if !slices.Equal(list, c.want) || code != impl.ErrNone {
			t.Errorf("EdgesLeaving(%v, %v) = %v, %d", c.g, c.vertices, list, code)
		}
	}
}

// sidesCase is a set of edges left out, with all that is to be told of it.
type sidesCase struct {
	g                  impl.Graph
	out                []int64
	sides              [][]int64
	cycles             int64
	isCut, bond, cycle bool
}

func sidesCases(t *testing.T) []sidesCase {
	t.Helper()
	theta, k4, prism := named(t, "theta"), named(t, "k4"), named(t, "prism")
	double := parsed(t, "4:0-1,0-1,0-2,1-3,2-3,2-3")
	whole := func(g impl.Graph) [][]int64 { return [][]int64{listOf(1<<g.Size - 1)} }
	return []sidesCase{
		{theta, nil, whole(theta), 1, false, false, false},
		{theta, []int64{1}, whole(theta), 1, false, false, false},
		{theta, []int64{0, 2}, whole(theta), 0, false, false, false},
		{theta, []int64{0, 1, 2}, [][]int64{{0}, {1}}, 0, true, true, false},
		{k4, []int64{0, 1}, whole(k4), 1, false, false, false},
		{k4, []int64{0, 1, 2}, [][]int64{{0}, {1, 2, 3}}, 1, true, true, false},
		{k4, []int64{0, 1, 4, 5}, [][]int64{{0, 3}, {1, 2}}, 0, true, true, false},
		// An edge that separates nothing spoils the bond, and another one more also the cycle.
		{k4, []int64{0, 1, 2, 5}, [][]int64{{0}, {1, 2, 3}}, 0, true, false, false},
		{k4, []int64{0, 1, 2, 3, 4}, [][]int64{{0}, {1}, {2, 3}}, 0, true, false, false},
		{k4, allEdges(k4), [][]int64{{0}, {1}, {2}, {3}}, 0, true, false, false},
		{prism, []int64{2, 4, 5}, [][]int64{{0, 1, 2}, {3, 4, 5}}, 2, true, true, true},
		{prism, []int64{2, 4, 5, 8}, [][]int64{{0, 1, 2}, {3, 4, 5}}, 1, true, false, false},
		// Two equal edges are a cycle.
		{double, []int64{2, 3}, [][]int64{{0, 1}, {2, 3}}, 2, true, true, true},
		{double, []int64{0, 2, 3}, [][]int64{{0, 1}, {2, 3}}, 1, true, false, false},
		{double, []int64{0, 1}, whole(double), 1, false, false, false},
		{named(t, "bridge"), []int64{7}, [][]int64{{0, 1, 2, 3, 4}, {5, 6, 7, 8, 9}}, 2, true, true, true},
		{named(t, "bridge"), []int64{2, 5}, [][]int64{{0, 1, 2, 3}, {4, 5, 6, 7, 8, 9}}, 2, true, true, true},
		{named(t, "bridge"), []int64{6, 7}, [][]int64{{0, 1, 2, 3, 4}, {5, 6, 7, 8, 9}}, 2, true, false, true},
		{parsed(t, threeBridges), []int64{0, 2}, [][]int64{{0, 4, 5, 6}, {1, 2, 3}, {7, 8, 9}}, 3, true, false, true},
	}
}

// sidesOfParts are sets of edges left out of graphs that are not connected.
func sidesOfParts(t *testing.T) []sidesCase {
	t.Helper()
	two, both := thetas(t, 2), beside(t, named(t, "k4"), named(t, "k4"))
	mixed := beside(t, named(t, "theta"), named(t, "prism"))
	return []sidesCase{
		{two, nil, [][]int64{{0, 1}, {2, 3}}, 2, false, false, false},
		{two, []int64{0, 3}, [][]int64{{0, 1}, {2, 3}}, 2, false, false, false},
		{two, []int64{0, 1, 2}, [][]int64{{0}, {1}, {2, 3}}, 1, true, true, false},
		{two, []int64{0, 1, 2, 3}, [][]int64{{0}, {1}, {2, 3}}, 1, true, false, false},
		{two, []int64{2, 3, 4, 5}, [][]int64{{0, 1}, {2}, {3}}, 1, true, false, false},
		{two, allEdges(two), [][]int64{{0}, {1}, {2}, {3}}, 0, true, false, false},
		// The other part has a cycle too.
		{both, []int64{0, 1, 2}, [][]int64{{0}, {1, 2, 3}, {4, 5, 6, 7}}, 2, true, true, true},
		{both, []int64{0, 6}, [][]int64{{0, 1, 2, 3}, {4, 5, 6, 7}}, 2, false, false, false},
		{both, []int64{0, 1, 4, 5}, [][]int64{{0, 3}, {1, 2}, {4, 5, 6, 7}}, 1, true, true, false},
		{mixed, []int64{0, 1, 2, 5, 7, 8}, [][]int64{{0}, {1}, {2, 3, 4}, {5, 6, 7}}, 2, true, false, true},
		{mixed, []int64{5, 7, 8}, [][]int64{{0, 1}, {2, 3, 4}, {5, 6, 7}}, 3, true, true, true},
	}
}

func TestSidesBehindEdges(t *testing.T) {
	for _, c := range append(sidesCases(t), sidesOfParts(t)...) {
		sides, code := impl.SidesOf(c.g, c.out)
		if !sameParts(sides, c.sides) || code != impl.ErrNone {
			t.Errorf("SidesOf(%v, %v) = %v, %d", c.g, c.out, sides, code)
		}
		count, cycles, code := impl.CountSides(c.g, c.out)
		if count != int64(len(c.sides)) || cycles != c.cycles || code != impl.ErrNone {
			t.Errorf("CountSides(%v, %v) = %d, %d, %d", c.g, c.out, count, cycles, code)
		}
		if yes, code := impl.IsEdgeCut(c.g, c.out); yes != c.isCut || code != impl.ErrNone {
			t.Errorf("IsEdgeCut(%v, %v) = %v, %d", c.g, c.out, yes, code)
		}
		if yes, code := impl.IsBond(c.g, c.out); yes != c.bond || code != impl.ErrNone {
			t.Errorf("IsBond(%v, %v) = %v, %d", c.g, c.out, yes, code)
		}
		if yes, code := impl.IsCyclicCut(c.g, c.out); yes != c.cycle || code != impl.ErrNone {
			t.Errorf("IsCyclicCut(%v, %v) = %v, %d", c.g, c.out, yes, code)
		}
	}
}

// A bond may have more than MaxCut edges.
func TestGreatBonds(t *testing.T) {
	g := named(t, "petersen")
	for _, c := range []struct {
		vertices []int64
		want     bool
	}{
		{[]int64{0, 1, 2, 3, 4}, true},
		{[]int64{0, 1, 2, 3}, true},
		{[]int64{0, 2, 3, 4, 5}, true},
		{[]int64{0, 2}, false},
		{[]int64{0, 2, 4, 6, 8}, false},
	} {
		leaving, _ := impl.EdgesLeaving(g, c.vertices)
		if yes, code := impl.IsBond(g, leaving); len(leaving) < 5 || yes != c.want || code != impl.ErrNone {
			t.Errorf("IsBond(petersen, %v) = %v, %d", leaving, yes, code)
		}
		if yes, code := impl.IsEdgeCut(g, leaving); !yes || code != impl.ErrNone {
			t.Errorf("IsEdgeCut(petersen, %v) = %v, %d", leaving, yes, code)
		}
	}
}

func TestBondsOfSize(t *testing.T) {
	for _, c := range []struct {
		g    impl.Graph
		k    int64
		want [][]int64
	}{
		{named(t, "theta"), 1, nil}, {named(t, "theta"), 2, nil},
		{named(t, "theta"), 3, [][]int64{{0, 1, 2}}},
		// There are fewer edges than that.
		{named(t, "theta"), 4, nil},
		{named(t, "k4"), 1, nil}, {named(t, "k4"), 2, nil},
		{named(t, "k4"), 3, [][]int64{{0, 1, 2}, {0, 3, 4}, {1, 3, 5}, {2, 4, 5}}},
		{named(t, "k4"), 4, [][]int64{{0, 1, 4, 5}, {0, 2, 3, 5}, {1, 2, 3, 4}}},
		{parsed(t, "4:0-1,0-1,0-2,1-3,2-3,2-3"), 2, [][]int64{{2, 3}}},
		{parsed(t, "4:0-1,0-1,0-2,1-3,2-3,2-3"), 3, [][]int64{{0, 1, 2}, {0, 1, 3}, {2, 4, 5}, {3, 4, 5}}},
		{parsed(t, "4:0-1,0-1,0-2,1-3,2-3,2-3"), 4, [][]int64{{0, 1, 4, 5}}},
		{named(t, "bridge"), 1, [][]int64{{7}}},
		{named(t, "bridge"), 2, [][]int64{{2, 5}, {10, 13}}},
		{parsed(t, leastBridge), 1, [][]int64{{4}}},
		{parsed(t, leastBridge), 2, [][]int64{{2, 3}, {5, 6}}},
		{parsed(t, threeBridges), 1, [][]int64{{0}, {1}, {2}}},
		{thetas(t, 2), 3, [][]int64{{0, 1, 2}, {3, 4, 5}}},
		{thetas(t, 2), 4, nil},
	} {
		list, code := impl.BondsOfSize(c.g, c.k)
		if !sameParts(list, c.want) || code != impl.ErrNone {
			t.Errorf("BondsOfSize(%v, %d) = %v, %d", c.g, c.k, list, code)
		}
	}
}

func TestConnectivities(t *testing.T) {
	for _, c := range []struct {
		g            impl.Graph
		edge, cyclic int64
	}{
		// Where the cyclic connectivity is not told, 0 stands for it.
		{named(t, "theta"), 3, 0}, {named(t, "k4"), 3, 0}, {named(t, "k33"), 3, 0},
		{named(t, "petersen"), 3, 0}, {named(t, "flower5"), 3, 0},
		{named(t, "prism"), 3, 3}, {named(t, "tietze"), 3, 3},
		{named(t, "cube"), 3, 4}, {named(t, "bridge"), 1, 1},
		{cubicRing(8), 3, 4}, {cubicRing(20), 3, 4},
		{parsed(t, "4:0-1,0-1,0-2,1-3,2-3,2-3"), 2, 2}, {cubicLadder(20), 2, 2},
		{parsed(t, leastBridge), 1, 1}, {parsed(t, threeBridges), 1, 1}, {parsed(t, rowOfBridges), 1, 1},
	} {
		edge, code := impl.EdgeConnectivity(c.g)
		if edge != c.edge || code != impl.ErrNone {
			t.Errorf("EdgeConnectivity(%v) = %d, %d", c.g, edge, code)
		}
		want := int64(impl.ErrNone)
		if c.cyclic == 0 {
			want = impl.ErrNotFound
		}
		cyclic, code := impl.CyclicConnectivity(c.g)
		if cyclic != c.cyclic || code != want {
			t.Errorf("CyclicConnectivity(%v) = %d, %d", c.g, cyclic, code)
		}
	}
}
