package tests

import (
	"slices"
	"sync"
	"testing"

	"loop.example/g01329/impl"
)

// graphsWithFlows returns graphs of all kinds, some with each flow number, some with bridges, some of several
// parts of which not all have flows.
func graphsWithFlows(t *testing.T) []impl.Graph {
	t.Helper()
	graphs := goodGraphs(t)
	for _, text := range []string{doubledPetersen, coverOfFour, twoDoubles, tenMatchings, leastBridge, threeBridges, rowOfBridges} {
		graphs = append(graphs, parsed(t, text))
	}
	petersen, k4 := named(t, "petersen"), named(t, "k4")
	return append(graphs, thetas(t, 10), beside(t, petersen, petersen), beside(t, petersen, thetas(t, 2)), beside(t, k4, petersen),
		beside(t, beside(t, k4, k4), beside(t, k4, k4)), beside(t, named(t, "prism"), parsed(t, threeBridges)),
		beside(t, parsed(t, leastBridge), petersen), beside(t, parsed(t, threeBridges), parsed(t, threeBridges)),
		turned(t, named(t, "flower5")), turned(t, beside(t, petersen, named(t, "cube"))), turned(t, beside(t, k4, petersen)))
}

// turned returns a graph with other numbers of its vertices, so that those of its parts come in turn.
func turned(t *testing.T, g impl.Graph) impl.Graph {
	t.Helper()
	p := make([]int64, g.Size)
	for v := range p {
		p[v] = int64(v) * 11 % g.Size
	}
	made, code := impl.RenumberGraph(g, p)
	if code != impl.ErrNone {
		t.Fatalf("RenumberGraph(%v, %v): code %d", g, p, code)
	}
	return made
}

// Promise 5: first flows are nowhere-zero flows. They are the least ones, and flow numbers are the least moduli
// of which there are some.
func TestPromise5FirstFlows(t *testing.T) {
	told := map[int64]int{}
	for _, g := range graphsWithFlows(t) {
		least := int64(0)
		for m := int64(2); m <= impl.MaxModulus; m++ {
			flow, code := impl.FirstFlow(g, m)
			want := refFirst(g, m, false)
			if !slices.Equal(flow, want) || (code == impl.ErrNone) != (len(want) > 0) {
				t.Fatalf("FirstFlow(%v, %d) = %v, %d, not %v", g, m, flow, code, want)
			}
			if code != impl.ErrNone {
				if code != impl.ErrNotFound || least != 0 {
					t.Fatalf("FirstFlow(%v, %d): code %d, but there is one modulo %d", g, m, code, least)
				}
				continue
			}
			if least == 0 {
				least = m
			}
			yes, a := impl.IsFlow(g, m, flow)
			full, b := impl.IsNowhereZero(g, m, flow)
			if !yes || !full || a != impl.ErrNone || b != impl.ErrNone || !refIsFlow(g, m, flow) || slices.Contains(flow, 0) {
				t.Fatalf("FirstFlow(%v, %d) = %v", g, m, flow)
			}
		}
		number, code := impl.FlowNumber(g)
		if number != least || number != refFlowNumber(g) || (code == impl.ErrNotFound) != (least == 0) || least > 0 && code != impl.ErrNone {
			t.Fatalf("FlowNumber(%v) = %d, %d, not %d", g, number, code, least)
		}
		told[number]++
	}
	if told[0] == 0 || told[3] == 0 || told[4] == 0 || told[5] == 0 || len(told) != 4 {
		t.Error("numbers of graphs by their flow numbers:", told)
	}
}

// Promise 5: whole flows within k give flows modulo k, and there is one exactly if there is a nowhere-zero one
// modulo k.
func TestPromise5WholeFlows(t *testing.T) {
	for _, g := range graphsWithFlows(t) {
		for k := int64(2); k <= impl.MaxModulus; k++ {
			whole, code := impl.FirstWholeFlow(g, k)
			_, flowCode := impl.FirstFlow(g, k)
			if code != flowCode {
				t.Fatalf("%v, %d: codes %d and %d", g, k, code, flowCode)
			}
			if code != impl.ErrNone {
				if len(whole) != 0 {
					t.Fatalf("FirstWholeFlow(%v, %d) = %v, %d", g, k, whole, code)
				}
				continue
			}
			if yes, code := impl.IsWholeFlow(g, k, whole); !yes || code != impl.ErrNone || !refIsWholeFlow(g, k, whole) {
				t.Fatalf("IsWholeFlow(%v, %d, %v) = %v, %d", g, k, whole, yes, code)
			}
			flow := modulo(whole, k)
			yes, a := impl.IsFlow(g, k, flow)
			full, b := impl.IsNowhereZero(g, k, flow)
			if !yes || !full || a != impl.ErrNone || b != impl.ErrNone {
				t.Fatalf("%v, %d: %v gives %v: %v, %d, %v, %d", g, k, whole, flow, yes, a, full, b)
			}
		}
	}
}

// The least whole flows, where they can be looked for in another way in a short time.
func TestFirstWholeFlowsAgainstSums(t *testing.T) {
	for _, g := range graphsWithFlows(t) {
		if g.Size > 10 && len(refBridges(g)) > 0 {
			continue
		}
		for k := int64(2); k <= impl.MaxModulus; k++ {
			if g.Size > 16 && (k == 4 || k == 6) {
				continue
			}
			want := refFirst(g, k, true)
			if flow, _ := impl.FirstWholeFlow(g, k); !slices.Equal(flow, want) {
				t.Fatalf("FirstWholeFlow(%v, %d) = %v, not %v", g, k, flow, want)
			}
		}
	}
}

// Promise 17: graphs with a bridge have no nowhere-zero flows, those without have some.
func TestPromise17Bridges(t *testing.T) {
	with := map[bool]int{}
	for _, g := range graphsWithFlows(t) {
		bridges, code := impl.BridgesOf(g)
		if code != impl.ErrNone || !slices.Equal(bridges, refBridges(g)) {
			t.Fatalf("BridgesOf(%v) = %v, %d", g, bridges, code)
		}
		number, code := impl.FlowNumber(g)
		if (code == impl.ErrNotFound) != (len(bridges) > 0) {
			t.Fatalf("%v has the bridges %v: FlowNumber: %d, %d", g, bridges, number, code)
		}
		with[len(bridges) > 0]++
		if len(bridges) > 0 {
			checkNoFlows(t, g, number)
		}
	}
	if with[true] < 10 || with[false] < 10 {
		t.Error("graphs with bridges and without:", with)
	}
}

// checkNoFlows looks for flows of a graph with bridges in all ways.
func checkNoFlows(t *testing.T, g impl.Graph, number int64) {
	t.Helper()
	if number != 0 {
		t.Fatalf("FlowNumber(%v) = %d", g, number)
	}
	for m := int64(2); m <= impl.MaxModulus; m++ {
		flow, a := impl.FirstFlow(g, m)
		whole, b := impl.FirstWholeFlow(g, m)
		if len(flow)+len(whole) != 0 || a != impl.ErrNotFound || b != impl.ErrNotFound {
			t.Fatalf("%v, %d: %v, %d, %v, %d", g, m, flow, a, whole, b)
		}
		count, code := impl.CountFlows(g, m)
		if count != 0 || (code == impl.ErrNone) != (g.Size <= impl.MaxCounted) {
			t.Fatalf("CountFlows(%v, %d) = %d, %d", g, m, count, code)
		}
	}
	pairs, code := impl.CountPairFlows(g)
	if pairs != 0 || (code == impl.ErrNone) != (g.Size <= impl.MaxCounted) {
		t.Fatalf("CountPairFlows(%v) = %d, %d", g, pairs, code)
	}
}

// Flows are counted as they are if edges are left out or their ends made one, and flows of pairs as colourings
// and as flows modulo 4.
func TestNumbersOfFlows(t *testing.T) {
	for _, g := range graphsWithFlows(t) {
		if g.Size > impl.MaxCounted {
			continue
		}
		var counts []int64
		for m := int64(2); m <= impl.MaxModulus; m++ {
			count, code := impl.CountFlows(g, m)
			if want := refCountFlows(g.Edges, m); count != want || code != impl.ErrNone {
				t.Fatalf("CountFlows(%v, %d) = %d, %d, not %d", g, m, count, code, want)
			}
			_, code = impl.FirstFlow(g, m)
			if (code == impl.ErrNone) != (count > 0) {
				t.Fatalf("%v has %d flows modulo %d, FirstFlow: code %d", g, count, m, code)
			}
			counts = append(counts, count)
		}
		pairs, code := impl.CountPairFlows(g)
		colourings, _ := impl.CountColourings(g)
		if pairs != refCountPairs(g) || pairs != refCount(g) || pairs != colourings || pairs != counts[2] || code != impl.ErrNone {
			t.Fatalf("CountPairFlows(%v) = %d, %d, not %d", g, pairs, code, refCountPairs(g))
		}
	}
}

// Flow numbers are at most 4 exactly if there is a nowhere-zero flow of pairs, and so a colouring, and 3 exactly if
// there are two kinds of vertices.
func TestFlowNumbersOfKindsOfGraphs(t *testing.T) {
	for _, g := range graphsWithFlows(t) {
		number, _ := impl.FlowNumber(g)
		if has := isColourable(g); has != (number == 3 || number == 4) {
			t.Fatalf("FlowNumber(%v) = %d, has a colouring: %v", g, number, has)
		}
		if two, _ := impl.IsBipartite(g); two != (number == 3) {
			t.Fatalf("FlowNumber(%v) = %d, two kinds: %v", g, number, two)
		}
	}
}

// The dimension is how many edges can be left out one by one without making more parts.
func TestFlowDimensions(t *testing.T) {
	for _, g := range graphsWithFlows(t) {
		var out []int64
		sides := len(refSides(g, nil))
		for e := range int64(len(g.Edges)) {
			if len(refSides(g, append(out, e))) == sides {
				out = append(out, e)
			}
		}
		if d, code := impl.FlowDimension(g); d != int64(len(out)) || code != impl.ErrNone {
			t.Fatalf("FlowDimension(%v) = %d, %d, not %d", g, d, code, len(out))
		}
	}
}

// Calls at the same time, and one after the other, return the same.
func TestFlowsAtTheSameTime(t *testing.T) {
	graphs := graphsWithFlows(t)
	var callers sync.WaitGroup
	for _, g := range graphs {
		callers.Go(func() {
			number, code := impl.FlowNumber(g)
			flow, flowCode := impl.FirstWholeFlow(g, 5)
			for range 3 {
				again, a := impl.FlowNumber(g)
				list, b := impl.FirstWholeFlow(g, 5)
				if a != code || b != flowCode || again != number || !slices.Equal(list, flow) {
					t.Errorf("%v: %d, %d, %v, %d", g, again, a, list, b)
				}
				if is, _ := impl.IsFlow(g, 5, slices.Repeat([]int64{1}, len(g.Edges))); is != refIsFlow(g, 5, slices.Repeat([]int64{1}, len(g.Edges))) {
					t.Errorf("IsFlow(%v, 5, 1s) = %v", g, is)
				}
			}
		})
	}
	callers.Wait()
}
