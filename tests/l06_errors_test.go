package tests

import (
	"slices"
	"testing"

	"loop.example/g01329/impl"
)

// A productCall calls a function of chapter 6 with one graph or two, and a list of numbers. The limits are what the
// numbers must be less than.
type productCall struct {
	name   string
	limits func(g impl.Graph, h impl.Graph) []int64
	run    func(g impl.Graph, h impl.Graph, x []int64) (impl.Graph, int64)
}

// callsOfTwo are the functions that have two graphs.
func callsOfTwo() []productCall {
	return []productCall{
		{"DotProduct", func(g impl.Graph, h impl.Graph) []int64 {
			m := int64(len(g.Edges))
			return []int64{m, m, h.Size, h.Size}
		}, func(g impl.Graph, h impl.Graph, x []int64) (impl.Graph, int64) {
			return impl.DotProduct(g, x[0], x[1], h, x[2], x[3])
		}},
		{"StarProduct", func(g impl.Graph, h impl.Graph) []int64 {
			return []int64{g.Size, h.Size}
		}, func(g impl.Graph, h impl.Graph, x []int64) (impl.Graph, int64) {
			return impl.StarProduct(g, x[0], h, x[1])
		}},
	}
}

// callsOfOne are the functions that have one graph and numbers.
func callsOfOne() []productCall {
	return []productCall{
		{"OpenVertex", func(g impl.Graph, h impl.Graph) []int64 {
			return []int64{g.Size}
		}, func(g impl.Graph, h impl.Graph, x []int64) (impl.Graph, int64) {
			return impl.OpenVertex(g, x[0])
		}},
		{"ShrinkTriangle", func(g impl.Graph, h impl.Graph) []int64 {
			return []int64{g.Size, g.Size, g.Size}
		}, func(g impl.Graph, h impl.Graph, x []int64) (impl.Graph, int64) {
			return impl.ShrinkTriangle(g, x[0], x[1], x[2])
		}},
		{"BridgeEdges", func(g impl.Graph, h impl.Graph) []int64 {
			return []int64{int64(len(g.Edges)), int64(len(g.Edges))}
		}, func(g impl.Graph, h impl.Graph, x []int64) (impl.Graph, int64) {
			return impl.BridgeEdges(g, x[0], x[1])
		}},
		{"CutEdge", func(g impl.Graph, h impl.Graph) []int64 {
			return []int64{int64(len(g.Edges))}
		}, func(g impl.Graph, h impl.Graph, x []int64) (impl.Graph, int64) {
			return impl.CutEdge(g, x[0])
		}},
	}
}

func productCalls() []productCall {
	return append(callsOfTwo(), callsOfOne()...)
}

// outside returns numbers that are not in 0..limit - 1.
func outside(limit int64) []int64 {
	return []int64{-1 << 63, -1<<63 + 1, -1 << 32, -limit, -2, -1, limit, limit + 1, 2 * limit, 1 << 32, 1<<32 + 1, 1<<63 - 1}
}

// What is not a graph is told before numbers that are out of their ranges, equal ones, and limits.
func TestProductsOfNoGraphs(t *testing.T) {
	lists := [][]int64{{0, 5, 0, 1}, {0, 0, 0, 0}, {-1, -1, -1, -1}, {0, 1, 2, 3}, {1<<63 - 1, -1 << 63, 40, 30}, {0, 0, 99, 0}}
	for _, bad := range badGraphs() {
		for _, x := range lists {
			for _, good := range []impl.Graph{named(t, "k4"), named(t, "theta"), cubicRing(20)} {
				for _, call := range callsOfTwo() {
					for i, pair := range [][2]impl.Graph{{bad.g, good}, {good, bad.g}, {bad.g, bad.g}} {
						if made, code := call.run(pair[0], pair[1], x); code != impl.ErrInvalid || !isZeroGraph(made) {
							t.Errorf("%s (%d): %s with %v = %v, %d", bad.why, i, call.name, x, made, code)
						}
					}
				}
			}
			for _, call := range callsOfOne() {
				if made, code := call.run(bad.g, bad.g, x); code != impl.ErrInvalid || !isZeroGraph(made) {
					t.Errorf("%s: %s with %v = %v, %d", bad.why, call.name, x, made, code)
				}
			}
		}
		if yes, code := impl.IsSnark(bad.g); yes || code != impl.ErrInvalid {
			t.Errorf("%s: IsSnark = %v, %d", bad.why, yes, code)
		}
	}
	// Edges out of order make none of a snark.
	g := copyGraph(named(t, "petersen"))
	slices.Reverse(g.Edges)
	if yes, code := impl.IsSnark(g); yes || code != impl.ErrInvalid {
		t.Errorf("IsSnark(%v) = %v, %d", g, yes, code)
	}
}

// pairsForErrors returns two graphs each, of the least and the greatest Sizes, the same and different ones.
func pairsForErrors(t *testing.T) [][2]impl.Graph {
	t.Helper()
	theta, k4, great := named(t, "theta"), named(t, "k4"), cubicRing(20)
	return [][2]impl.Graph{{k4, k4}, {theta, theta}, {theta, great}, {great, theta}, {great, great}, {k4, named(t, "cube")},
		{named(t, "prism"), k4}, {named(t, "petersen"), thetas(t, 4)}, {cubicLadder(18), cubicLadder(6)}}
}

// One number out of its range is told before numbers that are equal, and before limits.
func TestNumbersOfProductsOutOfRange(t *testing.T) {
	for _, pair := range pairsForErrors(t) {
		for _, call := range productCalls() {
			limits := call.limits(pair[0], pair[1])
			for place, limit := range limits {
				for _, number := range outside(limit) {
					for _, x := range [][]int64{make([]int64, len(limits)), greatestBelow(limits)} {
						x[place] = number
						if made, code := call.run(pair[0], pair[1], x); code != impl.ErrRange || !isZeroGraph(made) {
							t.Fatalf("%s(%v, %v) with %v = %v, %d", call.name, pair[0], pair[1], x, made, code)
						}
					}
				}
			}
			checkInRange(t, call, pair, limits)
		}
	}
}

func greatestBelow(limits []int64) []int64 {
	list := slices.Clone(limits)
	for i := range list {
		list[i]--
	}
	return list
}

// checkInRange looks at each number alone, the others being 0: it is in its range.
func checkInRange(t *testing.T, call productCall, pair [2]impl.Graph, limits []int64) {
	t.Helper()
	for place, limit := range limits {
		for number := range limit {
			x := make([]int64, len(limits))
			x[place] = number
			made, code := call.run(pair[0], pair[1], x)
			if code == impl.ErrRange || code == impl.ErrInvalid || (code == impl.ErrNone) == isZeroGraph(made) {
				t.Fatalf("%s(%v, %v) with %v = %v, %d", call.name, pair[0], pair[1], x, made, code)
			}
		}
	}
}

// What must not be so is told before limits.
func TestStatesBeforeLimits(t *testing.T) {
	ring, ladder := cubicRing(20), cubicLadder(20)
	theta, petersen := named(t, "theta"), named(t, "petersen")
	for _, c := range []struct {
		g    impl.Graph
		e, f int64
		h    impl.Graph
		a, b int64
		want int64
	}{
		{ring, 0, 29, ring, 0, 1, impl.ErrLimit},
		{ring, 29, 0, ladder, 1, 2, impl.ErrLimit},
		{ring, 0, 0, ring, 0, 1, impl.ErrState},
		{ring, 29, 29, ring, 0, 1, impl.ErrState},
		{ring, 0, 1, ring, 0, 1, impl.ErrState},
		{ring, 0, 29, ring, 0, 2, impl.ErrState},
		{ring, 0, 29, ring, 7, 7, impl.ErrState},
		{ring, 0, 29, ladder, 0, 1, impl.ErrState},
		{ladder, 0, 1, ladder, 1, 2, impl.ErrState},
		{ring, 0, 29, theta, 0, 1, impl.ErrState},
		{theta, 0, 1, ring, 0, 1, impl.ErrState},
		{petersen, 0, 14, cubicRing(12), 0, 1, impl.ErrNone},
		{petersen, 0, 14, cubicRing(14), 0, 1, impl.ErrLimit},
		{cubicRing(12), 0, 17, petersen, 0, 1, impl.ErrNone},
		{cubicRing(14), 0, 20, petersen, 0, 1, impl.ErrLimit},
	} {
		made, code := impl.DotProduct(c.g, c.e, c.f, c.h, c.a, c.b)
		want, wanted := refDot(c.g, c.e, c.f, c.h, c.a, c.b)
		checkMade(t, "DotProduct", made, code, want, wanted)
		if code != c.want || code == impl.ErrNone && made.Size != impl.MaxVertices {
			t.Errorf("DotProduct(%v, %d, %d, %v, %d, %d) = %v, %d, not %d", c.g, c.e, c.f, c.h, c.a, c.b, made, code, c.want)
		}
	}
}

// Graphs with exactly MaxVertices vertices are made, greater ones are not, and such graphs are made less.
func TestLimitsOfProducts(t *testing.T) {
	for _, c := range []struct {
		a, b int64
		want int64
	}{
		{4, 18, impl.ErrNone}, {18, 4, impl.ErrNone}, {10, 12, impl.ErrNone}, {4, 20, impl.ErrLimit}, {20, 4, impl.ErrLimit},
		{12, 12, impl.ErrLimit}, {20, 20, impl.ErrLimit}, {20, 2, impl.ErrState}, {2, 20, impl.ErrState}, {2, 2, impl.ErrState},
	} {
		made, code := impl.StarProduct(cubicLadder(c.a), c.a-1, cubicLadder(c.b), 0)
		if code != c.want || code == impl.ErrNone && made.Size != 20 || (code == impl.ErrNone) != impl.IsGraph(made) || code != impl.ErrNone && !isZeroGraph(made) {
			t.Errorf("StarProduct of Sizes %d and %d = %v, %d", c.a, c.b, made, code)
		}
	}
	for _, g := range []impl.Graph{cubicRing(18), cubicLadder(18), cubicRing(20), cubicLadder(20), named(t, "flower5"), thetas(t, 9), thetas(t, 10)} {
		wanted, size := int64(impl.ErrNone), int64(20)
		if g.Size == 20 {
			wanted, size = impl.ErrLimit, 0
		}
		opened, a := impl.OpenVertex(g, g.Size-1)
		bridged, b := impl.BridgeEdges(g, int64(len(g.Edges))-1, 0)
		if a != wanted || b != wanted || opened.Size != size || bridged.Size != size || len(opened.Edges) != int(size/2*3) || len(bridged.Edges) != int(size/2*3) {
			t.Errorf("%v: %v, %d, %v, %d", g, opened, a, bridged, b)
		}
		if same, code := impl.BridgeEdges(g, 3, 3); code != impl.ErrState || !isZeroGraph(same) {
			t.Errorf("BridgeEdges(%v, 3, 3) = %v, %d", g, same, code)
		}
	}
	opened, _ := impl.OpenVertex(cubicRing(18), 17)
	if shrunk, code := impl.ShrinkTriangle(opened, 19, 18, 17); code != impl.ErrNone || !sameGraph(shrunk, cubicRing(18)) {
		t.Errorf("ShrinkTriangle(%v, 19, 18, 17) = %v, %d", opened, shrunk, code)
	}
	if cut, code := impl.CutEdge(cubicRing(20), 29); code != impl.ErrNone || cut.Size != 18 || !impl.IsGraph(cut) {
		t.Errorf("CutEdge = %v, %d", cut, code)
	}
}

// fillEdges writes all that belongs to a graph, even behind it.
func fillEdges(g impl.Graph) {
	all := g.Edges[:cap(g.Edges)]
	for i := range all {
		all[i] = impl.Edge{99, 98}
	}
}

// behindEdges returns a graph with something behind its edges, and all of that.
func behindEdges(g impl.Graph) (impl.Graph, []impl.Edge) {
	all := append(slices.Clone(g.Edges), impl.Edge{9, 8}, impl.Edge{7, 6}, impl.Edge{5, 4}, impl.Edge{3, 2}, impl.Edge{1, 0})
	return impl.Graph{Size: g.Size, Edges: all[:len(g.Edges)]}, all
}

// Arguments stay as they are, and results share no memory with them or with what a later call returns.
func TestProductsLeaveArgumentsAsTheyAre(t *testing.T) {
	numbers := map[string][]int64{"DotProduct": {0, 5, 0, 1}, "StarProduct": {1, 2}, "OpenVertex": {3}, "ShrinkTriangle": {0, 1, 2}, "BridgeEdges": {2, 4}, "CutEdge": {5}}
	k4, prism := named(t, "k4"), named(t, "prism")
	for _, pair := range [][2]impl.Graph{{k4, k4}, {k4, prism}, {prism, k4}, {k4, cubicRing(12)}} {
		for _, call := range productCalls() {
			g, allOfG := behindEdges(pair[0])
			h, allOfH := behindEdges(pair[1])
			before := [][]impl.Edge{slices.Clone(allOfG), slices.Clone(allOfH)}
			made, code := call.run(g, h, numbers[call.name])
			if code != impl.ErrNone {
				t.Fatalf("%s(%v, %v): code %d", call.name, g, h, code)
			}
			want := copyGraph(made)
			again, _ := call.run(g, h, numbers[call.name])
			fillEdges(made)
			later, _ := call.run(g, h, numbers[call.name])
			if !sameGraph(again, want) || !sameGraph(later, want) {
				t.Fatalf("%s(%v, %v) keeps something: %v, %v", call.name, g, h, again, later)
			}
			if !slices.Equal(allOfG, before[0]) || !slices.Equal(allOfH, before[1]) {
				t.Fatalf("%s: arguments have become %v and %v", call.name, allOfG, allOfH)
			}
		}
	}
}

func TestFlowersAndSnarksShareNoMemory(t *testing.T) {
	for _, k := range []int64{3, 5} {
		made, _ := impl.FlowerGraph(k)
		want := copyGraph(made)
		fillEdges(made)
		if again, code := impl.FlowerGraph(k); code != impl.ErrNone || !sameGraph(again, want) {
			t.Errorf("FlowerGraph(%d) keeps %v", k, again)
		}
	}
	for _, g := range goodGraphs(t) {
		h, all := behindEdges(g)
		before := slices.Clone(all)
		first, _ := impl.IsSnark(h)
		again, _ := impl.IsSnark(h)
		if first != again || !slices.Equal(all, before) {
			t.Fatalf("IsSnark(%v): %v, %v, %v", g, first, again, all)
		}
	}
}

// The same graph twice is no other case than two equal ones.
func TestProductsOfAGraphWithItself(t *testing.T) {
	g := named(t, "prism")
	dot, a := impl.DotProduct(g, 0, 8, g, 0, 3)
	other, b := impl.DotProduct(g, 0, 8, copyGraph(g), 0, 3)
	star, c := impl.StarProduct(g, 1, g, 4)
	second, d := impl.StarProduct(g, 1, copyGraph(g), 4)
	if !sameGraph(dot, other) || !sameGraph(star, second) || a+b+c+d != impl.ErrNone || !impl.IsGraph(dot) || !impl.IsGraph(star) || !sameGraph(g, named(t, "prism")) {
		t.Errorf("%v, %v, %v, %v", dot, other, star, second)
	}
}
