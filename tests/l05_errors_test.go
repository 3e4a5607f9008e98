package tests

import (
	"slices"
	"testing"

	"loop.example/g01329/impl"
)

// flowCall calls a function of chapter 5 with a graph, a modulus or bound, and a list in the place of each
// one, and tells its code and whether its other result is the zero value.
type flowCall struct {
	name string
	run  func(g impl.Graph, m int64, list []int64) (int64, bool)
}

// listCalls are the functions that have a list of values in 0..m - 1.
func listCalls() []flowCall {
	return []flowCall{
		{"IsFlow", func(g impl.Graph, m int64, list []int64) (int64, bool) {
			yes, code := impl.IsFlow(g, m, list)
			return code, !yes
		}},
		{"IsNowhereZero", func(g impl.Graph, m int64, list []int64) (int64, bool) {
			yes, code := impl.IsNowhereZero(g, m, list)
			return code, !yes
		}},
		{"AddFlows", func(g impl.Graph, m int64, list []int64) (int64, bool) {
			sum, code := impl.AddFlows(g, m, list, list)
			return code, len(sum) == 0
		}},
	}
}

func wholeFlowCall() flowCall {
	return flowCall{"IsWholeFlow", func(g impl.Graph, k int64, list []int64) (int64, bool) {
		yes, code := impl.IsWholeFlow(g, k, list)
		return code, !yes
	}}
}

// modulusCalls are the functions that have a modulus or a bound.
func modulusCalls() []flowCall {
	return append(listCalls(), wholeFlowCall(),
		flowCall{"FirstFlow", func(g impl.Graph, m int64, list []int64) (int64, bool) {
			flow, code := impl.FirstFlow(g, m)
			return code, len(flow) == 0
		}},
		flowCall{"CountFlows", func(g impl.Graph, m int64, list []int64) (int64, bool) {
			count, code := impl.CountFlows(g, m)
			return code, count == 0
		}},
		flowCall{"FirstWholeFlow", func(g impl.Graph, m int64, list []int64) (int64, bool) {
			flow, code := impl.FirstWholeFlow(g, m)
			return code, len(flow) == 0
		}},
	)
}

func flowCalls() []flowCall {
	return append(modulusCalls(),
		flowCall{"CountPairFlows", func(g impl.Graph, m int64, list []int64) (int64, bool) {
			count, code := impl.CountPairFlows(g)
			return code, count == 0
		}},
		flowCall{"FlowNumber", func(g impl.Graph, m int64, list []int64) (int64, bool) {
			number, code := impl.FlowNumber(g)
			return code, number == 0
		}},
		flowCall{"FlowDimension", func(g impl.Graph, m int64, list []int64) (int64, bool) {
			d, code := impl.FlowDimension(g)
			return code, d == 0
		}},
	)
}

// noModuli are numbers that are no modulus and no bound.
func noModuli() []int64 {
	return []int64{-1 << 63, -1<<63 + 1, -6, -3, -2, -1, 0, 1, 7, 8, 9, 12, 1 << 32, 1<<32 + 3, 1<<63 - 1}
}

// What is not a graph is told before moduli, lists, limits, flows that are none, and bridges.
func TestFlowsOfNoGraphs(t *testing.T) {
	bad := badGraphs()
	for _, g := range []impl.Graph{named(t, "bridge"), cubicRing(20), thetas(t, 7), parsed(t, leastBridge)} {
		g = copyGraph(g)
		slices.Reverse(g.Edges)
		bad = append(bad, badGraph{"edges out of order", g})
	}
	for _, bad := range bad {
		m := len(bad.g.Edges)
		lists := [][]int64{nil, {0}, make([]int64, m), slices.Repeat([]int64{1}, m), slices.Repeat([]int64{-1}, m), slices.Repeat([]int64{1001}, m)}
		for _, list := range lists {
			for _, modulus := range append(noModuli(), 2, 3, 4, 5, 6) {
				for _, call := range flowCalls() {
					if code, zero := call.run(bad.g, modulus, list); code != impl.ErrInvalid || !zero {
						t.Errorf("%s: %s with %d, %v: code %d, zero %v", bad.why, call.name, modulus, list, code, zero)
					}
				}
			}
		}
	}
}

// Moduli out of their range are told for all lists, for graphs with bridges and for those above the limit.
func TestModuliOutOfRange(t *testing.T) {
	for _, g := range goodGraphs(t) {
		m := len(g.Edges)
		lists := [][]int64{nil, make([]int64, m), make([]int64, m+1), slices.Repeat([]int64{1}, m), slices.Repeat([]int64{1 << 40}, m)}
		for _, modulus := range noModuli() {
			for _, list := range lists {
				for _, call := range modulusCalls() {
					if code, zero := call.run(g, modulus, list); code != impl.ErrRange || !zero {
						t.Fatalf("%s(%v, %d, %v): code %d, zero %v", call.name, g, modulus, list, code, zero)
					}
				}
			}
		}
	}
}

// The least and the greatest modulus and bound are accepted.
func TestModuliInRange(t *testing.T) {
	theta := named(t, "theta")
	for m := int64(2); m <= impl.MaxModulus; m++ {
		for _, call := range modulusCalls() {
			want := int64(impl.ErrNone)
			if m == 2 && (call.name == "FirstFlow" || call.name == "FirstWholeFlow") {
				want = impl.ErrNotFound
			}
			if code, _ := call.run(theta, m, []int64{0, 0, 0}); code != want {
				t.Errorf("%s(theta, %d): code %d", call.name, m, code)
			}
		}
	}
}

// listsOfWrongLength returns lists with too few and with too many values.
func listsOfWrongLength(m int) [][]int64 {
	return [][]int64{nil, {}, {0}, {0, 0}, make([]int64, m-1), make([]int64, m+1), make([]int64, 2*m),
		slices.Repeat([]int64{1}, m-1), slices.Repeat([]int64{1}, m+1)}
}

func TestListsOfWrongLength(t *testing.T) {
	for _, g := range goodGraphs(t) {
		for _, list := range listsOfWrongLength(len(g.Edges)) {
			for _, call := range append(listCalls(), wholeFlowCall()) {
				for _, m := range []int64{2, 6} {
					if code, zero := call.run(g, m, list); code != impl.ErrRange || !zero {
						t.Fatalf("%s(%v, %d, %v): code %d, zero %v", call.name, g, m, list, code, zero)
					}
				}
			}
		}
	}
}

func TestValuesOutOfRange(t *testing.T) {
	for _, g := range []impl.Graph{named(t, "theta"), named(t, "k4"), named(t, "petersen"), named(t, "bridge"), thetas(t, 2), cubicRing(20)} {
		for i := range g.Edges {
			for m := int64(2); m <= impl.MaxModulus; m++ {
				for _, x := range []int64{-1 << 63, -m, -2, -1, m, m + 1, 2 * m, 1000, 1 << 32, 1<<63 - 1} {
					list := make([]int64, len(g.Edges))
					list[i] = x
					for _, call := range listCalls() {
						if code, zero := call.run(g, m, list); code != impl.ErrRange || !zero {
							t.Fatalf("%s(%v, %d, %v): code %d, zero %v", call.name, g, m, list, code, zero)
						}
					}
				}
				checkWholeValues(t, g, m, i)
			}
		}
	}
}

// checkWholeValues puts numbers with absolute values of 1000 and more at one place.
func checkWholeValues(t *testing.T, g impl.Graph, k int64, i int) {
	t.Helper()
	list := slices.Repeat([]int64{1}, len(g.Edges))
	for _, x := range []int64{-1000, -999, 999, 1000, 0, k, -k} {
		list[i] = x
		if yes, code := impl.IsWholeFlow(g, k, list); yes || code != impl.ErrNone {
			t.Fatalf("IsWholeFlow(%v, %d, %v) = %v, %d", g, k, list, yes, code)
		}
	}
	for _, x := range []int64{-1 << 63, -1<<63 + 1, -1 << 32, -1002, -1001, 1001, 1002, 1 << 32, 1<<63 - 1} {
		list[i] = x
		if yes, code := impl.IsWholeFlow(g, k, list); yes || code != impl.ErrRange {
			t.Fatalf("IsWholeFlow(%v, %d, %v) = %v, %d", g, k, list, yes, code)
		}
	}
}

// Both lists are looked at for their values before one of them for being a flow.
func TestErrorsOfSums(t *testing.T) {
	theta := named(t, "theta")
	good, zero := []int64{1, 1, 1}, []int64{0, 0, 0}
	none := [][]int64{{1, 1, 0}, {1, 0, 0}, {0, 2, 2}, {2, 1, 1}}
	outside := [][]int64{nil, {1, 1}, {1, 1, 1, 0}, {1, 1, 3}, {-1, 1, 0}, {0, 0, -3}, {1 << 40, 0, 0}}
	check := func(m int64, a []int64, b []int64, want int64) {
		t.Helper()
		for _, pair := range [][2][]int64{{a, b}, {b, a}} {
			if sum, code := impl.AddFlows(theta, m, pair[0], pair[1]); code != want || len(sum) != 0 {
				t.Errorf("AddFlows(theta, %d, %v, %v) = %v, %d", m, pair[0], pair[1], sum, code)
			}
		}
	}
	for _, a := range none {
		check(3, a, good, impl.ErrState)
		check(3, a, zero, impl.ErrState)
		check(3, a, a, impl.ErrState)
		check(7, a, good, impl.ErrRange)
		check(1, a, a, impl.ErrRange)
		for _, b := range outside {
			check(3, a, b, impl.ErrRange)
		}
	}
	for _, b := range outside {
		check(3, good, b, impl.ErrRange)
		check(3, zero, b, impl.ErrRange)
		check(3, b, b, impl.ErrRange)
	}
	// A flow of one modulus need not be one of another.
	check(4, good, good, impl.ErrState)
	check(2, good, zero, impl.ErrState)
}

// A change of one value, or of two of edges without common ends, makes a flow none.
func TestChangedFlowsAreNone(t *testing.T) {
	for _, g := range []impl.Graph{named(t, "theta"), named(t, "cube"), named(t, "petersen"), named(t, "flower5"), thetas(t, 10), cubicLadder(20)} {
		const m = 5
		flow, code := impl.FirstFlow(g, m)
		if code != impl.ErrNone {
			t.Fatalf("FirstFlow(%v): code %d", g, code)
		}
		for e := range flow {
			changed := slices.Clone(flow)
			changed[e] = (changed[e] + 1) % m
			yes, a := impl.IsFlow(g, m, changed)
			full, b := impl.IsNowhereZero(g, m, changed)
			if yes || full || a != impl.ErrNone || b != impl.ErrNone {
				t.Errorf("%v, %v: %v, %d, %v, %d", g, changed, yes, a, full, b)
			}
			for _, pair := range [][2][]int64{{flow, changed}, {changed, flow}, {changed, changed}} {
				if sum, code := impl.AddFlows(g, m, pair[0], pair[1]); code != impl.ErrState || len(sum) != 0 {
					t.Errorf("AddFlows(%v, %v, %v) = %v, %d", g, pair[0], pair[1], sum, code)
				}
			}
		}
	}
}

// The limit is told behind the modulus, and before there is nothing to count.
func TestGraphsAboveMaxCounted(t *testing.T) {
	above := []impl.Graph{cubicRing(14), cubicLadder(14), cubicRing(20), thetas(t, 7), thetas(t, 10), named(t, "flower5"),
		beside(t, named(t, "theta"), named(t, "tietze")), beside(t, named(t, "bridge"), named(t, "k4"))}
	for _, g := range above {
		for m := int64(0); m <= 8; m++ {
			want := int64(impl.ErrLimit)
			if m < 2 || m > 6 {
				want = impl.ErrRange
			}
			if n, code := impl.CountFlows(g, m); n != 0 || code != want {
				t.Errorf("CountFlows(%v, %d) = %d, %d", g, m, n, code)
			}
		}
		if n, code := impl.CountPairFlows(g); n != 0 || code != impl.ErrLimit {
			t.Errorf("CountPairFlows(%v) = %d, %d", g, n, code)
		}
		if _, code := impl.FlowDimension(g); code != impl.ErrNone {
			t.Errorf("FlowDimension(%v): code %d", g, code)
		}
	}
	at := []impl.Graph{cubicRing(12), cubicLadder(12), thetas(t, 6), named(t, "tietze"), parsed(t, doubledPetersen),
		beside(t, named(t, "theta"), named(t, "bridge"))}
	for _, g := range at {
		for m := int64(2); m <= impl.MaxModulus; m++ {
			if n, code := impl.CountFlows(g, m); n != refCountFlows(g.Edges, m) || code != impl.ErrNone {
				t.Errorf("CountFlows(%v, %d) = %d, %d", g, m, n, code)
			}
		}
		if n, code := impl.CountPairFlows(g); n != refCountPairs(g) || code != impl.ErrNone {
			t.Errorf("CountPairFlows(%v) = %d, %d", g, n, code)
		}
	}
	// 6 graphs of 20 flows each.
	if n, code := impl.CountFlows(thetas(t, 6), 6); n != 64000000 || code != impl.ErrNone {
		t.Errorf("CountFlows = %d, %d", n, code)
	}
}

func TestFlowsLeaveArgumentsAsTheyAre(t *testing.T) {
	for _, g := range goodGraphs(t) {
		flow, code := impl.FirstFlow(g, 6)
		if code != impl.ErrNone {
			flow = make([]int64, len(g.Edges))
		}
		list, all := behind(flow)
		edges := append(slices.Clone(g.Edges), impl.Edge{9, 8})
		before, numbers := slices.Clone(edges), slices.Clone(all)
		h := impl.Graph{Size: g.Size, Edges: edges[:len(g.Edges)]}
		for _, call := range flowCalls() {
			call.run(h, 6, list)
		}
		sum, code := impl.AddFlows(h, 6, list, list)
		if code != impl.ErrNone {
			t.Fatalf("AddFlows(%v, %v): code %d", h, list, code)
		}
		again, _ := impl.FirstFlow(h, 6)
		whole, _ := impl.FirstWholeFlow(h, 6)
		for _, made := range [][]int64{sum, again, whole} {
			fill(made)
		}
		if !slices.Equal(edges, before) || !slices.Equal(all, numbers) {
			t.Fatalf("%v: %v, %v", g, edges, all)
		}
	}
}

func TestFlowsShareNoMemory(t *testing.T) {
	for _, g := range []impl.Graph{named(t, "theta"), named(t, "cube"), named(t, "petersen"), thetas(t, 3), cubicLadder(10)} {
		checkApart(t, func() [][]int64 {
			flow, _ := impl.FirstFlow(g, 5)
			again, _ := impl.FirstFlow(g, 5)
			whole, _ := impl.FirstWholeFlow(g, 5)
			sum, _ := impl.AddFlows(g, 5, make([]int64, len(g.Edges)), make([]int64, len(g.Edges)))
			return [][]int64{flow, again, whole, sum}
		})
	}
}
