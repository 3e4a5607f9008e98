package tests

import (
	"math/rand"
	"slices"
	"testing"

	"loop.example/g01329/impl"
)

func TestFlowLimits(t *testing.T) {
	if impl.MaxModulus != 6 || impl.MaxCounted != 12 {
		t.Error("MaxModulus, MaxCounted", impl.MaxModulus, impl.MaxCounted)
	}
}

// allValues calls with each list of n values from least to greatest, in lexicographic order.
func allValues(n int, least int64, greatest int64, call func(list []int64)) {
	list := slices.Repeat([]int64{least}, n)
	for {
		call(list)
		i := n - 1
		for i >= 0 && list[i] == greatest {
			list[i] = least
			i--
		}
		if i < 0 {
			return
		}
		list[i]++
	}
}

func TestIsFlow(t *testing.T) {
	for _, c := range []struct {
		name    string
		m       int64
		list    []int64
		is, not bool // a flow, but not nowhere zero
	}{
		{"theta", 2, []int64{0, 0, 0}, true, true},
		{"theta", 2, []int64{1, 1, 0}, true, true},
		{"theta", 2, []int64{1, 0, 1}, true, true},
		{"theta", 2, []int64{1, 1, 1}, false, false},
		{"theta", 2, []int64{1, 0, 0}, false, false},
		{"theta", 3, []int64{1, 1, 1}, true, false},
		{"theta", 3, []int64{2, 2, 2}, true, false},
		{"theta", 3, []int64{1, 2, 0}, true, true},
		{"theta", 3, []int64{1, 2, 1}, false, false},
		{"theta", 4, []int64{1, 1, 2}, true, false},
		{"theta", 4, []int64{1, 1, 1}, false, false},
		{"theta", 5, []int64{4, 4, 2}, true, false},
		{"theta", 6, []int64{5, 5, 2}, true, false},
		{"theta", 6, []int64{2, 2, 2}, true, false},
		{"theta", 6, []int64{3, 3, 0}, true, true},
		{"theta", 6, []int64{1, 1, 1}, false, false},
		// 0-1, 0-2, 0-3, 1-2, 1-3, 2-3
		{"k4", 4, []int64{1, 1, 2, 2, 3, 3}, true, false},
		{"k4", 4, []int64{1, 1, 2, 2, 3, 1}, false, false},
		{"k4", 4, []int64{3, 3, 2, 2, 1, 1}, true, false},
		{"k4", 5, []int64{1, 1, 3, 2, 4, 3}, true, false},
		{"k4", 6, []int64{1, 5, 0, 1, 0, 0}, true, true},
		{"k4", 6, []int64{1, 1, 0, 1, 0, 0}, false, false},
		{"k4", 3, []int64{0, 0, 0, 1, 2, 1}, true, true},
		{"k4", 3, []int64{0, 0, 0, 1, 1, 1}, false, false},
		// All edges are directed from one kind of vertices to the other one.
		{"k33", 3, []int64{1, 1, 1, 1, 1, 1, 1, 1, 1}, true, false},
		{"k33", 3, []int64{1, 1, 1, 1, 1, 1, 1, 1, 2}, false, false},
		{"k33", 4, []int64{1, 1, 2, 1, 2, 1, 2, 1, 1}, true, false},
		// The bridge is the edge 7.
		{"bridge", 6, make([]int64, 15), true, true},
		{"bridge", 6, []int64{1, 1, 4, 0, 1, 1, 5, 0, 0, 0, 0, 0, 0, 0, 0}, false, false},
	} {
		g := named(t, c.name)
		if yes, code := impl.IsFlow(g, c.m, c.list); yes != c.is || code != impl.ErrNone {
			t.Errorf("IsFlow(%s, %d, %v) = %v, %d", c.name, c.m, c.list, yes, code)
		}
		if yes, code := impl.IsNowhereZero(g, c.m, c.list); yes != (c.is && !c.not) || code != impl.ErrNone {
			t.Errorf("IsNowhereZero(%s, %d, %v) = %v, %d", c.name, c.m, c.list, yes, code)
		}
	}
}

func TestIsWholeFlow(t *testing.T) {
	for _, c := range []struct {
		name string
		k    int64
		list []int64
		want bool
	}{
		{"theta", 3, []int64{1, 1, -2}, true},
		{"theta", 2, []int64{1, 1, -2}, false},
		{"theta", 4, []int64{1, 1, -2}, true},
		{"theta", 4, []int64{-3, 1, 2}, true},
		{"theta", 3, []int64{-3, 1, 2}, false},
		{"theta", 3, []int64{1, 1, 1}, false},
		{"theta", 2, []int64{1, 1, 1}, false},
		{"theta", 2, []int64{1, -1, 0}, false},
		{"theta", 6, []int64{0, 0, 0}, false},
		{"theta", 6, []int64{5, 0, -5}, false},
		{"theta", 6, []int64{5, -1, -4}, true},
		{"theta", 5, []int64{5, -1, -4}, false},
		{"theta", 6, []int64{-5, 2, 3}, true},
		{"theta", 5, []int64{-5, 2, 3}, false},
		{"theta", 6, []int64{6, -3, -3}, false},
		{"theta", 6, []int64{3, -6, 3}, false},
		{"theta", 6, []int64{1000, -500, -500}, false},
		{"theta", 6, []int64{1000, -1000, 0}, false},
		{"theta", 6, []int64{1, 1, 1000}, false},
		{"theta", 6, []int64{-1000, -1000, -1000}, false},
		{"k4", 4, []int64{-3, 1, 2, -2, -1, -1}, true},
		{"k4", 4, []int64{-3, 1, 2, -2, -1, 1}, false},
		{"k4", 4, []int64{3, -1, -2, 2, 1, 1}, true},
		{"k4", 3, []int64{3, -1, -2, 2, 1, 1}, false},
		{"k33", 3, []int64{-2, 1, 1, 1, -2, 1, 1, 1, -2}, true},
		{"k33", 2, []int64{-2, 1, 1, 1, -2, 1, 1, 1, -2}, false},
		{"k33", 3, []int64{-2, 1, 1, 1, -2, 1, 1, 1, 1}, false},
	} {
		if yes, code := impl.IsWholeFlow(named(t, c.name), c.k, c.list); yes != c.want || code != impl.ErrNone {
			t.Errorf("IsWholeFlow(%s, %d, %v) = %v, %d", c.name, c.k, c.list, yes, code)
		}
	}
}

// Of all lists just the flows are flows; there are m^d of them, and the first and the number of those without
// 0 are as the program says.
func TestFlowsAmongAllLists(t *testing.T) {
	for _, c := range []struct {
		g        impl.Graph
		greatest int64 // modulus
	}{
		{named(t, "theta"), 6}, {named(t, "k4"), 6}, {parsed(t, twoDoubles), 6}, {thetas(t, 2), 6},
		{named(t, "k33"), 3}, {named(t, "prism"), 4}, {cubicLadder(6), 3}, {parsed(t, leastBridge), 4},
		{thetas(t, 3), 3}, {named(t, "cube"), 2}, {parsed(t, rowOfBridges), 2},
	} {
		for m := int64(2); m <= c.greatest; m++ {
			checkAllLists(t, c.g, m)
		}
	}
}

func checkAllLists(t *testing.T, g impl.Graph, m int64) {
	t.Helper()
	all, full := int64(0), int64(0)
	var least []int64
	allValues(len(g.Edges), 0, m-1, func(list []int64) {
		want := refIsFlow(g, m, list)
		wantFull := want && !slices.Contains(list, 0)
		yes, code := impl.IsFlow(g, m, list)
		yesFull, codeFull := impl.IsNowhereZero(g, m, list)
		if yes != want || yesFull != wantFull || code != impl.ErrNone || codeFull != impl.ErrNone {
			t.Fatalf("%v, %d, %v: %v, %d, %v, %d", g, m, list, yes, code, yesFull, codeFull)
		}
		if want {
			all++
		}
		if wantFull {
			full++
			if len(least) == 0 {
				least = slices.Clone(list)
			}
		}
	})
	d, code := impl.FlowDimension(g)
	power := int64(1)
	for range d {
		power *= m
	}
	if power != all || code != impl.ErrNone {
		t.Errorf("FlowDimension(%v) = %d, %d, but there are %d flows modulo %d", g, d, code, all, m)
	}
	if n, code := impl.CountFlows(g, m); n != full || code != impl.ErrNone {
		t.Errorf("CountFlows(%v, %d) = %d, %d, not %d", g, m, n, code, full)
	}
	first, code := impl.FirstFlow(g, m)
	if !slices.Equal(first, least) || (code == impl.ErrNone) != (full > 0) || full == 0 && code != impl.ErrNotFound {
		t.Errorf("FirstFlow(%v, %d) = %v, %d, not %v", g, m, first, code, least)
	}
}

func TestWholeFlowsAmongAllLists(t *testing.T) {
	for _, c := range []struct {
		g        impl.Graph
		greatest int64 // bound
	}{
		{named(t, "theta"), 6}, {named(t, "k4"), 4}, {parsed(t, twoDoubles), 4}, {thetas(t, 2), 4}, {named(t, "prism"), 2},
	} {
		for k := int64(2); k <= c.greatest; k++ {
			var least []int64
			allValues(len(c.g.Edges), -k, k, func(list []int64) {
				want := refIsWholeFlow(c.g, k, list)
				if yes, code := impl.IsWholeFlow(c.g, k, list); yes != want || code != impl.ErrNone {
					t.Fatalf("IsWholeFlow(%v, %d, %v) = %v, %d", c.g, k, list, yes, code)
				}
				if want && len(least) == 0 {
					least = slices.Clone(list)
				}
			})
			first, code := impl.FirstWholeFlow(c.g, k)
			found := len(least) > 0
			if !slices.Equal(first, least) || (code == impl.ErrNone) != found || !found && code != impl.ErrNotFound {
				t.Errorf("FirstWholeFlow(%v, %d) = %v, %d, not %v", c.g, k, first, code, least)
			}
		}
	}
}

// flowCase is what is known of a graph with a name. Where it has a bridge, the flow number is 0.
type flowCase struct {
	name      string
	number    int64
	dimension int64
	counts    []int64 // of the moduli from 2 on
	pairs     int64
}

func flowCases() []flowCase {
	return []flowCase{
		{"theta", 3, 2, []int64{0, 2, 6, 12, 20}, 6},
		{"k4", 4, 3, []int64{0, 0, 6, 24, 60}, 6},
		{"k33", 3, 4, []int64{0, 2, 12, 60, 200}, 12},
		{"prism", 4, 4, []int64{0, 0, 6, 48, 180}, 6},
		{"cube", 3, 5, []int64{0, 2, 24, 156, 680}, 24},
		{"petersen", 5, 6, []int64{0, 0, 0, 240, 1920}, 0},
		{"tietze", 5, 7, []int64{0, 0, 0, 480, 5760}, 0},
		{"bridge", 0, 6, []int64{0, 0, 0, 0, 0}, 0},
	}
}

func TestFlowsOfGraphsWithNames(t *testing.T) {
	for _, c := range flowCases() {
		g := named(t, c.name)
		wantCode := int64(impl.ErrNone)
		if c.number == 0 {
			wantCode = impl.ErrNotFound
		}
		if n, code := impl.FlowNumber(g); n != c.number || code != wantCode {
			t.Errorf("FlowNumber(%s) = %d, %d", c.name, n, code)
		}
		if d, code := impl.FlowDimension(g); d != c.dimension || code != impl.ErrNone {
			t.Errorf("FlowDimension(%s) = %d, %d", c.name, d, code)
		}
		if n, code := impl.CountPairFlows(g); n != c.pairs || code != impl.ErrNone {
			t.Errorf("CountPairFlows(%s) = %d, %d", c.name, n, code)
		}
		for i, want := range c.counts {
			if n, code := impl.CountFlows(g, int64(i)+2); n != want || code != impl.ErrNone {
				t.Errorf("CountFlows(%s, %d) = %d, %d", c.name, i+2, n, code)
			}
		}
	}
	if n, code := impl.FlowNumber(named(t, "flower5")); n != 5 || code != impl.ErrNone {
		t.Errorf("FlowNumber(flower5) = %d, %d", n, code)
	}
	if d, code := impl.FlowDimension(named(t, "flower5")); d != 11 || code != impl.ErrNone {
		t.Errorf("FlowDimension(flower5) = %d, %d", d, code)
	}
}

func TestFirstFlowsOfSmallGraphs(t *testing.T) {
	for _, c := range []struct {
		g     impl.Graph
		m     int64
		list  []int64
		whole []int64
	}{
		{named(t, "theta"), 2, nil, nil},
		{named(t, "theta"), 3, []int64{1, 1, 1}, []int64{-2, 1, 1}},
		{named(t, "theta"), 4, []int64{1, 1, 2}, []int64{-3, 1, 2}},
		{named(t, "theta"), 5, []int64{1, 1, 3}, []int64{-4, 1, 3}},
		{named(t, "theta"), 6, []int64{1, 1, 4}, []int64{-5, 1, 4}},
		{named(t, "k4"), 2, nil, nil},
		{named(t, "k4"), 3, nil, nil},
		{named(t, "k4"), 4, []int64{1, 1, 2, 2, 3, 3}, []int64{-3, 1, 2, -2, -1, -1}},
		{named(t, "k33"), 3, []int64{1, 1, 1, 1, 1, 1, 1, 1, 1}, []int64{-2, 1, 1, 1, -2, 1, 1, 1, -2}},
		{named(t, "bridge"), 6, nil, nil},
		{thetas(t, 2), 2, nil, nil},
		{thetas(t, 2), 3, []int64{1, 1, 1, 1, 1, 1}, []int64{-2, 1, 1, -2, 1, 1}},
		{thetas(t, 2), 6, []int64{1, 1, 4, 1, 1, 4}, []int64{-5, 1, 4, -5, 1, 4}},
		{beside(t, named(t, "theta"), named(t, "k4")), 3, nil, nil},
		{beside(t, named(t, "k4"), named(t, "theta")), 3, nil, nil},
		{beside(t, named(t, "k4"), named(t, "theta")), 4, []int64{1, 1, 2, 2, 3, 3, 1, 1, 2}, []int64{-3, 1, 2, -2, -1, -1, -3, 1, 2}},
		{beside(t, named(t, "theta"), parsed(t, leastBridge)), 6, nil, nil},
		// Edges of two parts in turn: 0-2, 0-2, 0-2 and 1-3, 1-3, 1-3.
		{parsed(t, "4:0-2,0-2,0-2,1-3,1-3,1-3"), 5, []int64{1, 1, 3, 1, 1, 3}, []int64{-4, 1, 3, -4, 1, 3}},
	} {
		list, code := impl.FirstFlow(c.g, c.m)
		whole, wholeCode := impl.FirstWholeFlow(c.g, c.m)
		wantCode := int64(impl.ErrNone)
		if c.list == nil {
			wantCode = impl.ErrNotFound
		}
		if !slices.Equal(list, c.list) || code != wantCode {
			t.Errorf("FirstFlow(%v, %d) = %v, %d", c.g, c.m, list, code)
		}
		if !slices.Equal(whole, c.whole) || wholeCode != wantCode {
			t.Errorf("FirstWholeFlow(%v, %d) = %v, %d", c.g, c.m, whole, wholeCode)
		}
	}
}

func TestAddFlows(t *testing.T) {
	theta, k4 := named(t, "theta"), named(t, "k4")
	for _, c := range []struct {
		g          impl.Graph
		m          int64
		a, b, want []int64
	}{
		{theta, 3, []int64{1, 1, 1}, []int64{1, 2, 0}, []int64{2, 0, 1}},
		{theta, 3, []int64{1, 1, 1}, []int64{1, 1, 1}, []int64{2, 2, 2}},
		{theta, 3, []int64{1, 1, 1}, []int64{2, 2, 2}, []int64{0, 0, 0}},
		{theta, 3, []int64{1, 1, 1}, []int64{0, 0, 0}, []int64{1, 1, 1}},
		{theta, 2, []int64{1, 1, 0}, []int64{0, 1, 1}, []int64{1, 0, 1}},
		{theta, 2, []int64{1, 1, 0}, []int64{1, 1, 0}, []int64{0, 0, 0}},
		{theta, 6, []int64{5, 5, 2}, []int64{5, 4, 3}, []int64{4, 3, 5}},
		{theta, 4, []int64{0, 0, 0}, []int64{0, 0, 0}, []int64{0, 0, 0}},
		{k4, 4, []int64{1, 1, 2, 2, 3, 3}, []int64{3, 3, 2, 2, 1, 1}, []int64{0, 0, 0, 0, 0, 0}},
		{k4, 4, []int64{1, 1, 2, 2, 3, 3}, []int64{1, 3, 0, 1, 0, 0}, []int64{2, 0, 2, 3, 3, 3}},
	} {
		for _, order := range [][2][]int64{{c.a, c.b}, {c.b, c.a}} {
			if list, code := impl.AddFlows(c.g, c.m, order[0], order[1]); !slices.Equal(list, c.want) || code != impl.ErrNone {
				t.Errorf("AddFlows(%v, %d, %v, %v) = %v, %d", c.g, c.m, order[0], order[1], list, code)
			}
		}
	}
}

// Sums of flows are flows: of a flow with itself, with the one that has only the value 0, and with others.
func TestSumsOfDrawnFlows(t *testing.T) {
	draw := rand.New(rand.NewSource(11))
	for _, g := range goodGraphs(t) {
		for m := int64(2); m <= impl.MaxModulus; m++ {
			a, b := modulo(drawnFlow(draw, g, 5), m), modulo(drawnFlow(draw, g, 5), m)
			zero := make([]int64, len(g.Edges))
			for _, flow := range [][]int64{a, b, zero} {
				if yes, code := impl.IsFlow(g, m, flow); !yes || code != impl.ErrNone || !refIsFlow(g, m, flow) {
					t.Fatalf("IsFlow(%v, %d, %v) = %v, %d", g, m, flow, yes, code)
				}
			}
			for _, pair := range [][2][]int64{{a, b}, {b, a}, {a, a}, {a, zero}, {zero, b}, {zero, zero}} {
				want := make([]int64, len(g.Edges))
				for e := range want {
					want[e] = (pair[0][e] + pair[1][e]) % m
				}
				sum, code := impl.AddFlows(g, m, pair[0], pair[1])
				if !slices.Equal(sum, want) || code != impl.ErrNone {
					t.Fatalf("AddFlows(%v, %d, %v, %v) = %v, %d", g, m, pair[0], pair[1], sum, code)
				}
				if yes, code := impl.IsFlow(g, m, sum); !yes || code != impl.ErrNone {
					t.Fatalf("IsFlow(%v, %d, %v) = %v, %d", g, m, sum, yes, code)
				}
			}
			checkRound(t, g, m, a)
		}
	}
}

// checkRound adds a flow to itself until each value is there m times.
func checkRound(t *testing.T, g impl.Graph, m int64, flow []int64) {
	t.Helper()
	sum := flow
	for range m - 1 {
		next, code := impl.AddFlows(g, m, sum, flow)
		if code != impl.ErrNone {
			t.Fatalf("AddFlows(%v, %d, %v, %v): code %d", g, m, sum, flow, code)
		}
		sum = next
	}
	if !slices.Equal(sum, make([]int64, len(flow))) {
		t.Fatalf("%v: %d times %v is %v", g, m, flow, sum)
	}
}

// Whole numbers of any size within 1000 make whole flows only within their bounds.
func TestIsWholeFlowOfDrawnLists(t *testing.T) {
	draw := rand.New(rand.NewSource(12))
	are := map[bool]int{}
	for _, g := range goodGraphs(t) {
		for k := int64(2); k <= impl.MaxModulus; k++ {
			for _, greatest := range []int64{1, 2, 30} {
				list := drawnFlow(draw, g, greatest)
				if !refIsFlow(g, 0, list) {
					t.Fatalf("%v is no flow of %v", list, g)
				}
				for i, x := range list {
					list[i] = max(-1000, min(x, 1000))
				}
				want := refIsWholeFlow(g, k, list)
				if yes, code := impl.IsWholeFlow(g, k, list); yes != want || code != impl.ErrNone {
					t.Fatalf("IsWholeFlow(%v, %d, %v) = %v, %d", g, k, list, yes, code)
				}
				are[want]++
			}
		}
	}
	if are[true] < 20 || are[false] < 20 {
		t.Error("whole flows drawn:", are)
	}
}
