package tests

import (
	"math/rand"
	"slices"
	"testing"

	"loop.example/g01329/impl"
)

// someSets returns sets of the numbers 0 to n - 1: the one of none, the one of all, those of one, and
// drawn ones of all sizes.
func someSets(draw *rand.Rand, n int, drawn int) [][]int64 {
	sets := [][]int64{nil, listOf(1<<n - 1)}
	for x := range n {
		sets = append(sets, []int64{int64(x)})
	}
	for range drawn {
		var set []int64
		of := draw.Intn(n + 1)
		for x := range n {
			if draw.Intn(n) < of {
				set = append(set, int64(x))
			}
		}
		sets = append(sets, set)
	}
	return sets
}

// Promise 3: as many edges leave a set of vertices, up to a multiple of 2, as it has vertices.
func TestPromise3EdgesLeavingKeepTheRest(t *testing.T) {
	draw := rand.New(rand.NewSource(3))
	for _, g := range goodGraphs(t) {
		for _, vertices := range someSets(draw, int(g.Size), 30) {
			leaving, code := impl.EdgesLeaving(g, vertices)
			if code != impl.ErrNone || !slices.Equal(leaving, refLeaving(g, setOf(vertices))) {
				t.Fatalf("EdgesLeaving(%v, %v) = %v, %d", g, vertices, leaving, code)
			}
			if len(leaving)%2 != len(vertices)%2 {
				t.Fatalf("%v: %d edges leave %v", g, len(leaving), vertices)
			}
		}
	}
}

// Promise 3: bonds are edge cuts. Bonds of a few edges are found by sets of vertices once more.
func TestPromise3BondsAreEdgeCuts(t *testing.T) {
	for i, g := range goodGraphs(t) {
		// All sets of four edges of the greater graphs take their time.
		if g.Size > 14 && i%3 != 0 {
			continue
		}
		cuts := refCutsOf(g)
		for k := int64(1); k <= impl.MaxCut; k++ {
			bonds, code := impl.BondsOfSize(g, k)
			if code != impl.ErrNone || !sameParts(bonds, cuts.bonds[k]) {
				t.Fatalf("BondsOfSize(%v, %d) = %v, %d, not %v", g, k, bonds, code, cuts.bonds[k])
			}
			for _, bond := range bonds {
				checkBond(t, g, bond)
			}
		}
		checkConnectivities(t, g, cuts)
	}
}

// checkBond tells whether a bond is a bond, an edge cut, and one with a side more.
func checkBond(t *testing.T, g impl.Graph, bond []int64) {
	t.Helper()
	if yes, code := impl.IsBond(g, bond); !yes || code != impl.ErrNone {
		t.Fatalf("IsBond(%v, %v) = %v, %d", g, bond, yes, code)
	}
	if yes, code := impl.IsEdgeCut(g, bond); !yes || code != impl.ErrNone {
		t.Fatalf("IsEdgeCut(%v, %v) = %v, %d", g, bond, yes, code)
	}
	parts, _ := impl.PartsOf(g)
	sides, code := impl.SidesOf(g, bond)
	if len(sides) != len(parts)+1 || code != impl.ErrNone {
		t.Fatalf("SidesOf(%v, %v) = %v, %d", g, bond, sides, code)
	}
	left := 0
	for _, side := range sides {
		if leaving, _ := impl.EdgesLeaving(g, side); slices.Equal(leaving, bond) {
			left++
		}
	}
	if left != 2 {
		t.Fatalf("%v: %v leaves %d of %v", g, bond, left, sides)
	}
}

func checkConnectivities(t *testing.T, g impl.Graph, cuts refCuts) {
	t.Helper()
	edge, a := impl.EdgeConnectivity(g)
	cyclic, b := impl.CyclicConnectivity(g)
	connected, _ := impl.IsConnected(g)
	switch {
	case !connected:
		if edge != 0 || cyclic != 0 || a != impl.ErrState || b != impl.ErrState {
			t.Fatalf("%v: %d, %d, %d, %d", g, edge, a, cyclic, b)
		}
	case edge != cuts.least || a != impl.ErrNone:
		t.Fatalf("EdgeConnectivity(%v) = %d, %d, not %d", g, edge, a, cuts.least)
	case cuts.cyclic > impl.MaxCut:
		if cyclic != 0 || b != impl.ErrNotFound {
			t.Fatalf("CyclicConnectivity(%v) = %d, %d", g, cyclic, b)
		}
	case cyclic != cuts.cyclic || b != impl.ErrNone:
		t.Fatalf("CyclicConnectivity(%v) = %d, %d, not %d", g, cyclic, b, cuts.cyclic)
	}
}

// The guarantee: bridges are bonds of one edge.
func TestBridgesAreBondsOfOneEdge(t *testing.T) {
	for _, g := range goodGraphs(t) {
		bridges, a := impl.BridgesOf(g)
		bonds, b := impl.BondsOfSize(g, 1)
		if a != impl.ErrNone || b != impl.ErrNone || len(bonds) != len(bridges) {
			t.Fatalf("%v: bridges %v, %d, bonds %v, %d", g, bridges, a, bonds, b)
		}
		for e := range g.Edges {
			set := []int64{int64(e)}
			is := slices.Contains(bridges, set[0])
			bond, a := impl.IsBond(g, set)
			cut, b := impl.IsEdgeCut(g, set)
			if a != impl.ErrNone || b != impl.ErrNone || bond != is || cut != is || is != refIsEdgeCut(g, set) {
				t.Fatalf("%v, %d: bridge %v, bond %v, %d, edge cut %v, %d", g, e, is, bond, a, cut, b)
			}
		}
		for i, bond := range bonds {
			if !slices.Equal(bond, bridges[i:i+1]) {
				t.Fatalf("%v: bridges %v, bonds %v", g, bridges, bonds)
			}
		}
	}
}

// Sets of edges of all sizes, cuts with an edge more and with an edge less among them.
func TestSetsOfEdgesAgainstOtherWays(t *testing.T) {
	draw := rand.New(rand.NewSource(4))
	for _, g := range goodGraphs(t) {
		sets := someSets(draw, len(g.Edges), 12)
		for range 8 {
			leaving := refLeaving(g, draw.Uint32()&(1<<g.Size-1))
			more := setOf(leaving) | 1<<draw.Intn(len(g.Edges))
			sets = append(sets, leaving, listOf(more), listOf(more&(more-1)))
		}
		for _, out := range sets {
			checkSet(t, g, out)
		}
	}
}

func checkSet(t *testing.T, g impl.Graph, out []int64) {
	t.Helper()
	sides, code := impl.SidesOf(g, out)
	want := refSides(g, out)
	if code != impl.ErrNone || !sameParts(sides, want) {
		t.Fatalf("SidesOf(%v, %v) = %v, %d", g, out, sides, code)
	}
	cycles := refCountCyclic(g, out)
	count, inside, code := impl.CountSides(g, out)
	if code != impl.ErrNone || count != int64(len(want)) || inside != cycles {
		t.Fatalf("CountSides(%v, %v) = %d, %d, %d", g, out, count, inside, code)
	}
	isCut := refIsEdgeCut(g, out)
	if yes, code := impl.IsEdgeCut(g, out); code != impl.ErrNone || yes != isCut {
		t.Fatalf("IsEdgeCut(%v, %v) = %v, %d", g, out, yes, code)
	}
	if yes, code := impl.IsBond(g, out); code != impl.ErrNone || yes != refIsBond(g, out) {
		t.Fatalf("IsBond(%v, %v) = %v, %d", g, out, yes, code)
	}
	if yes, code := impl.IsCyclicCut(g, out); code != impl.ErrNone || yes != (isCut && cycles >= 2) {
		t.Fatalf("IsCyclicCut(%v, %v) = %v, %d", g, out, yes, code)
	}
}

// All sets of edges of the least graphs.
func TestAllSetsOfEdges(t *testing.T) {
	graphs := []impl.Graph{named(t, "theta"), named(t, "k4"), named(t, "k33"), named(t, "prism"),
		cubicLadder(4), cubicLadder(6), thetas(t, 2), thetas(t, 3), parsed(t, leastBridge)}
	for _, g := range graphs {
		for set := range uint32(1) << len(g.Edges) {
			checkSet(t, g, listOf(set))
		}
	}
}

// Promise 2, with chapter 3: cut numbers count the leaving edges by their colours; exchanging keeps
// their sum and their rests, and exchanging twice changes none of them.
func TestPromise2CutNumbersCountLeavingEdges(t *testing.T) {
	draw := rand.New(rand.NewSource(6))
	for _, g := range colourable(t) {
		c := first(t, g)
		e := int64(draw.Intn(len(c)))
		b := (c[e] + 1 + draw.Int63n(2)) % 3
		once, code := impl.ExchangeChain(g, c, e, b)
		if code != impl.ErrNone {
			t.Fatalf("ExchangeChain(%v, %v, %d, %d): code %d", g, c, e, b, code)
		}
		twice, code := impl.ExchangeChain(g, once, e, c[e])
		if code != impl.ErrNone {
			t.Fatalf("ExchangeChain(%v, %v, %d, %d): code %d", g, once, e, c[e], code)
		}
		for _, vertices := range someSets(draw, int(g.Size), 5) {
			checkLeavingColours(t, g, c, vertices)
			checkLeavingColours(t, g, once, vertices)
			before, _ := impl.CutNumbers(g, c, vertices)
			after, code := impl.CutNumbers(g, twice, vertices)
			if code != impl.ErrNone || !slices.Equal(before, after) {
				t.Fatalf("CutNumbers(%v, %v, %v) = %v, %d, not %v", g, twice, vertices, after, code, before)
			}
		}
	}
}

func checkLeavingColours(t *testing.T, g impl.Graph, c []int64, vertices []int64) {
	t.Helper()
	leaving, a := impl.EdgesLeaving(g, vertices)
	numbers, b := impl.CutNumbers(g, c, vertices)
	want := []int64{0, 0, 0}
	for _, e := range leaving {
		want[c[e]]++
	}
	if a != impl.ErrNone || b != impl.ErrNone || !slices.Equal(numbers, want) {
		t.Fatalf("%v, %v, %v: leaving %v, %d, cut numbers %v, %d", g, c, vertices, leaving, a, numbers, b)
	}
	for _, x := range want {
		if x%2 != int64(len(vertices)%2) {
			t.Fatalf("%v, %v, %v: cut numbers %v", g, c, vertices, numbers)
		}
	}
}
