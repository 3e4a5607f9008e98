package tests

import (
	"math/bits"
	"math/rand"
	"slices"
	"sync"
	"testing"

	"loop.example/g01329/impl"
)

// Promise 9: trees with an edge add up to all trees times the vertices less 1. Each number is also that of another count, and just
// graphs that are not connected have no trees.
func TestPromise9TreesWithEdgesAddUp(t *testing.T) {
	connected := map[bool]int{}
	for _, g := range append(graphsWithFlows(t), parsed(t, dodecahedron), parsed(t, heawood), parsed(t, joinedPetersens)) {
		trees, code := impl.CountTrees(g)
		if want := refTrees(g.Size, g.Edges); trees != want || code != impl.ErrNone {
			t.Fatalf("CountTrees(%v) = %d, %d, not %d", g, trees, code, want)
		}
		sum := int64(0)
		for e := range g.Edges {
			with, code := impl.TreesWithEdge(g, int64(e))
			if want := refTreesWith(g, e); with != want || code != impl.ErrNone {
				t.Fatalf("TreesWithEdge(%v, %d) = %d, %d, not %d", g, e, with, code, want)
			}
			sum += with
		}
		if sum != trees*(g.Size-1) {
			t.Fatalf("%v has %d trees; those with an edge add up to %d", g, trees, sum)
		}
		one, _ := impl.IsConnected(g)
		if one != (trees > 0) {
			t.Fatalf("CountTrees(%v) = %d, connected: %v", g, trees, one)
		}
		connected[one]++
	}
	if connected[true] < 100 || connected[false] < 15 {
		t.Error("graphs that are connected and not:", connected)
	}
}

// A bridge is in all trees, and of other edges each is missing in one of them.
func TestTreesWithBridges(t *testing.T) {
	bridged := 0
	for _, g := range graphsWithFlows(t) {
		trees, _ := impl.CountTrees(g)
		bridges := refBridges(g)
		for e := range int64(len(g.Edges)) {
			with, code := impl.TreesWithEdge(g, e)
			if code != impl.ErrNone || trees > 0 && (with == trees) != slices.Contains(bridges, e) || trees > 0 && with == 0 {
				t.Fatalf("TreesWithEdge(%v, %d) = %d, %d; there are %d trees, and the bridges %v", g, e, with, code, trees, bridges)
			}
		}
		if trees > 0 && len(bridges) > 0 {
			bridged++
		}
	}
	if bridged < 10 {
		t.Error("connected graphs with bridges:", bridged)
	}
}

// Promise 15: values of flow polynomials are numbers of flows.
func TestPromise15ValuesAreNumbersOfFlows(t *testing.T) {
	with := map[bool]int{}
	for _, g := range graphsUpTo(t, impl.MaxExpanded) {
		for m := int64(2); m <= impl.MaxModulus; m++ {
			value, a := impl.FlowPolynomialAt(g, m)
			count, b := impl.CountFlows(g, m)
			if value != count || a != impl.ErrNone || b != impl.ErrNone {
				t.Fatalf("%v, %d: FlowPolynomialAt = %d, %d, CountFlows = %d, %d", g, m, value, a, count, b)
			}
			with[count > 0]++
		}
		pairs, _ := impl.CountPairFlows(g)
		if value, _ := impl.FlowPolynomialAt(g, 4); value != pairs {
			t.Fatalf("%v: FlowPolynomialAt = %d, CountPairFlows = %d", g, value, pairs)
		}
	}
	if with[true] < 100 || with[false] < 100 {
		t.Error("values that are more than 0 and not:", with)
	}
}

// Flow polynomials, their values at all numbers, forests, sets that connect, and trees are those of another count.
func TestCountsAgainstExpansions(t *testing.T) {
	for _, g := range graphsUpTo(t, impl.MaxExpanded) {
		table := refExpand(g)
		want := table.polynomial(g)
		polynomial, code := impl.FlowPolynomial(g)
		if !slices.Equal(polynomial, want) || code != impl.ErrNone {
			t.Fatalf("FlowPolynomial(%v) = %v, %d, not %v", g, polynomial, code, want)
		}
		for x := int64(-10); x <= 10; x++ {
			if value, code := impl.FlowPolynomialAt(g, x); value != refValueAt(want, x) || code != impl.ErrNone {
				t.Fatalf("FlowPolynomialAt(%v, %d) = %d, %d, not %d", g, x, value, code, refValueAt(want, x))
			}
		}
		forests, a := impl.CountForests(g)
		if forests != table.forests() || a != impl.ErrNone {
			t.Fatalf("CountForests(%v) = %d, %d, not %d", g, forests, a, table.forests())
		}
		connecting, b := impl.CountConnecting(g)
		if connecting != table.connecting(g) || b != impl.ErrNone {
			t.Fatalf("CountConnecting(%v) = %d, %d, not %d", g, connecting, b, table.connecting(g))
		}
		trees, c := impl.CountTrees(g)
		if trees != table.trees(g) || c != impl.ErrNone {
			t.Fatalf("CountTrees(%v) = %d, %d, not %d", g, trees, c, table.trees(g))
		}
	}
}

// setCounts are what there is to count of the sets of edges of a graph, as the document tells it.
type setCounts struct {
	polynomial                 []int64
	forests, connecting, trees int64
	treesWith                  []int64
}

// refSetCounts looks at each set of edges of a graph, its sides, and whether a cycle is in it.
func refSetCounts(g impl.Graph) setCounts {
	m := len(g.Edges)
	cycles := refAllCycles(g)
	counts := setCounts{polynomial: make([]int64, m+1), treesWith: make([]int64, m)}
	for set := range uint32(1) << m {
		k, c := bits.OnesCount32(set), len(refSides(g, listOf(^set&(1<<m-1))))
		counts.polynomial[k-int(g.Size)+c] += 1 - 2*int64((m-k)%2)
		isForest := !slices.ContainsFunc(cycles, func(cycle uint32) bool { return cycle&^set == 0 })
		if isForest {
			counts.forests++
		}
		if c == 1 {
			counts.connecting++
		}
		if isForest && c == 1 {
			counts.trees++
			for _, e := range listOf(set) {
				counts.treesWith[e]++
			}
		}
	}
	counts.polynomial = refTrimmed(counts.polynomial)
	return counts
}

// All that is counted of sets of edges is as the document tells it.
func TestCountsAgainstAllSets(t *testing.T) {
	for _, g := range graphsUpTo(t, 8) {
		want := refSetCounts(g)
		polynomial, a := impl.FlowPolynomial(g)
		forests, b := impl.CountForests(g)
		connecting, c := impl.CountConnecting(g)
		trees, d := impl.CountTrees(g)
		if a != impl.ErrNone || b != impl.ErrNone || c != impl.ErrNone || d != impl.ErrNone {
			t.Fatalf("%v: codes %d, %d, %d, %d", g, a, b, c, d)
		}
		if !slices.Equal(polynomial, want.polynomial) || forests != want.forests || connecting != want.connecting || trees != want.trees {
			t.Fatalf("%v: %v, %d, %d, %d, not %v", g, polynomial, forests, connecting, trees, want)
		}
		for e := range g.Edges {
			if with, code := impl.TreesWithEdge(g, int64(e)); with != want.treesWith[e] || code != impl.ErrNone {
				t.Fatalf("TreesWithEdge(%v, %d) = %d, %d, not %d", g, e, with, code, want.treesWith[e])
			}
		}
	}
}

// A flow polynomial is 0 exactly if there is a bridge. Others have as many numbers as the flow dimension tells, and one more, the last
// one of which is 1. At 1 all are 0.
func TestFormsOfFlowPolynomials(t *testing.T) {
	with := map[bool]int{}
	for _, g := range graphsUpTo(t, impl.MaxExpanded) {
		polynomial, code := impl.FlowPolynomial(g)
		bridges := refBridges(g)
		if code != impl.ErrNone || (len(polynomial) == 0) != (len(bridges) > 0) {
			t.Fatalf("FlowPolynomial(%v) = %v, %d; there are the bridges %v", g, polynomial, code, bridges)
		}
		with[len(bridges) > 0]++
		d, _ := impl.FlowDimension(g)
		if last := len(polynomial) - 1; last >= 0 && (int64(last) != d || polynomial[last] != 1) {
			t.Fatalf("FlowPolynomial(%v) = %v; the dimension is %d", g, polynomial, d)
		}
		if value, code := impl.FlowPolynomialAt(g, 1); value != 0 || code != impl.ErrNone {
			t.Fatalf("FlowPolynomialAt(%v, 1) = %d, %d", g, value, code)
		}
	}
	if with[true] < 10 || with[false] < 10 {
		t.Error("graphs with bridges and without:", with)
	}
}

// The guarantee: cycles by length add up to all cycles. They are those of other counts.
func TestCyclesByLengthAddUp(t *testing.T) {
	rounds := map[bool]int{}
	for _, g := range graphsUpTo(t, impl.MaxExpanded) {
		counts, code := impl.CyclesByLength(g)
		if want := refByLength(g); !slices.Equal(counts, want) || code != impl.ErrNone || int64(len(counts)) != g.Size+1 {
			t.Fatalf("CyclesByLength(%v) = %v, %d, not %v", g, counts, code, want)
		}
		cycles, _ := impl.AllCycles(g)
		for _, cycle := range cycles {
			counts[len(cycle)]--
		}
		if slices.Max(counts) != 0 || slices.Min(counts) != 0 {
			t.Fatalf("CyclesByLength(%v) has %v more than there are", g, counts)
		}
		count, code := impl.CountRounds(g)
		if count != refRounds(g) || code != impl.ErrNone {
			t.Fatalf("CountRounds(%v) = %d, %d, not %d", g, count, code, refRounds(g))
		}
		rounds[count > 0]++
	}
	if rounds[true] < 50 || rounds[false] < 50 {
		t.Error("graphs with cycles with all vertices and without:", rounds)
	}
}

// The girth is the first length of which there is a cycle.
func TestCyclesByLengthBeginAtTheGirth(t *testing.T) {
	for _, g := range graphsUpTo(t, impl.MaxExpanded) {
		counts, _ := impl.CyclesByLength(g)
		girth, _ := impl.GirthOf(g)
		if first := slices.IndexFunc(counts, func(count int64) bool { return count != 0 }); int64(first) != girth {
			t.Fatalf("CyclesByLength(%v) = %v; the girth is %d", g, counts, girth)
		}
	}
}

// The guarantee: ways do not depend on the direction. From each vertex there are three times as many as of the length before.
func TestWaysInBothDirections(t *testing.T) {
	for _, g := range graphsWithFlows(t) {
		for b := range g.Size {
			power := int64(1)
			for k := range int64(impl.MaxSteps + 1) {
				sum := int64(0)
				for a, want := range refWays(g, b, k) {
					there, c := impl.CountWaysOf(g, int64(a), b, k)
					back, d := impl.CountWaysOf(g, b, int64(a), k)
					if there != want || back != want || c != impl.ErrNone || d != impl.ErrNone {
						t.Fatalf("%v, %d, %d, %d: %d, %d, and back %d, %d, not %d", g, a, b, k, there, c, back, d, want)
					}
					sum += back
				}
				if sum != power {
					t.Fatalf("%v: %d ways of the length %d from %d", g, sum, k, b)
				}
				power *= 3
			}
		}
	}
}

// Ways are lists of edges.
func TestWaysAgainstLists(t *testing.T) {
	for _, g := range graphsUpTo(t, 6) {
		for k := range 5 {
			for a := range g.Size {
				for b := range g.Size {
					want := refListsOfWays(g, a, b, k)
					if count, code := impl.CountWaysOf(g, a, b, int64(k)); count != want || code != impl.ErrNone {
						t.Fatalf("CountWaysOf(%v, %d, %d, %d) = %d, %d, not %d", g, a, b, k, count, code, want)
					}
				}
			}
		}
	}
}

// The first length of which there are ways is the distance, and between parts there are none.
func TestWaysBeginAtTheDistance(t *testing.T) {
	for _, g := range graphsWithFlows(t) {
		for a := range g.Size {
			for b := range g.Size {
				distance, code := impl.DistanceOf(g, a, b)
				for k := range int64(impl.MaxSteps + 1) {
					count, _ := impl.CountWaysOf(g, a, b, k)
					if count > 0 && (code != impl.ErrNone || k < distance) || k == distance && code == impl.ErrNone && count == 0 {
						t.Fatalf("CountWaysOf(%v, %d, %d, %d) = %d; DistanceOf = %d, %d", g, a, b, k, count, distance, code)
					}
				}
			}
		}
	}
}

// Other numbers of the vertices change no count.
func TestCountsOfRenumberedGraphs(t *testing.T) {
	draw := rand.New(rand.NewSource(29))
	for _, g := range goodGraphs(t) {
		p := make([]int64, g.Size)
		for v, w := range draw.Perm(int(g.Size)) {
			p[v] = int64(w)
		}
		h, _ := impl.RenumberGraph(g, p)
		trees, _ := impl.CountTrees(g)
		if other, code := impl.CountTrees(h); other != trees || code != impl.ErrNone {
			t.Fatalf("CountTrees(%v) = %d, of %v it is %d, %d", g, trees, h, other, code)
		}
		for e, edge := range g.Edges {
			f := slices.Index(h.Edges, sorted([]impl.Edge{{p[edge[0]], p[edge[1]]}})[0])
			with, _ := impl.TreesWithEdge(g, int64(e))
			if other, code := impl.TreesWithEdge(h, int64(f)); other != with || code != impl.ErrNone {
				t.Fatalf("TreesWithEdge(%v, %d) = %d, of %v, %d it is %d, %d", g, e, with, h, f, other, code)
			}
		}
		for _, call := range limitedCalls() {
			list, a := call.list(g)
			other, b := call.list(h)
			if !slices.Equal(list, other) || a != b {
				t.Fatalf("%s(%v) = %v, %d, of %v it is %v, %d", call.name, g, list, a, h, other, b)
			}
		}
		a, b := draw.Int63n(g.Size), draw.Int63n(g.Size)
		ways, _ := impl.CountWaysOf(g, a, b, 9)
		if other, code := impl.CountWaysOf(h, p[a], p[b], 9); other != ways || code != impl.ErrNone {
			t.Fatalf("CountWaysOf(%v, %d, %d) = %d, of %v it is %d, %d", g, a, b, ways, h, other, code)
		}
	}
}

// Graphs beside each other have the product of their flow polynomials and forests, the cycles of both, and no cycles, trees and sets
// with all vertices.
func TestCountsOfGraphsBesideEachOther(t *testing.T) {
	graphs := graphsUpTo(t, 8)
	for i, g := range graphs {
		h := graphs[i*7%len(graphs)]
		if g.Size+h.Size > impl.MaxExpanded {
			continue
		}
		both := beside(t, g, h)
		for x := int64(-10); x <= 10; x++ {
			a, _ := impl.FlowPolynomialAt(g, x)
			b, _ := impl.FlowPolynomialAt(h, x)
			if value, code := impl.FlowPolynomialAt(both, x); value != a*b || code != impl.ErrNone {
				t.Fatalf("FlowPolynomialAt(%v, %d) = %d, %d, not %d times %d", both, x, value, code, a, b)
			}
		}
		a, _ := impl.CountForests(g)
		b, _ := impl.CountForests(h)
		if forests, code := impl.CountForests(both); forests != a*b || code != impl.ErrNone {
			t.Fatalf("CountForests(%v) = %d, %d, not %d times %d", both, forests, code, a, b)
		}
		want := make([]int64, both.Size+1)
		for _, one := range []impl.Graph{g, h} {
			counts, _ := impl.CyclesByLength(one)
			for k, count := range counts {
				want[k] += count
			}
		}
		if counts, code := impl.CyclesByLength(both); !slices.Equal(counts, want) || code != impl.ErrNone {
			t.Fatalf("CyclesByLength(%v) = %v, %d, not %v", both, counts, code, want)
		}
		rounds, c := impl.CountRounds(both)
		connecting, d := impl.CountConnecting(both)
		trees, e := impl.CountTrees(both)
		if rounds+connecting+trees != 0 || c != impl.ErrNone || d != impl.ErrNone || e != impl.ErrNone {
			t.Fatalf("%v: %d, %d, %d, codes %d, %d, %d", both, rounds, connecting, trees, c, d, e)
		}
	}
}

// Calls at the same time, and one after the other, return the same.
func TestCountsAtTheSameTime(t *testing.T) {
	var callers sync.WaitGroup
	for _, g := range goodGraphs(t) {
		callers.Go(func() {
			trees, _ := impl.CountTrees(g)
			var lists [][]int64
			for _, call := range limitedCalls() {
				list, _ := call.list(g)
				lists = append(lists, list)
			}
			for range 3 {
				if again, _ := impl.CountTrees(g); again != trees {
					t.Errorf("CountTrees(%v) = %d, then %d", g, trees, again)
				}
				for i, call := range limitedCalls() {
					if again, _ := call.list(g); !slices.Equal(again, lists[i]) {
						t.Errorf("%s(%v) = %v, then %v", call.name, g, lists[i], again)
					}
				}
			}
		})
	}
	callers.Wait()
}
