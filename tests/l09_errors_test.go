package tests

import (
	"slices"
	"testing"

	"loop.example/g01329/impl"
)

// A countCall calls a function of chapter 9 with a graph, and with what it has of an edge, a place of the polynomial, two vertices and
// a length, and returns its result as a list, which is empty for the zero value, and its code.
type countCall struct {
	name string
	run  func(g impl.Graph, x countArguments) ([]int64, int64)
}

type countArguments struct{ e, x, a, b, k int64 }

// list calls a function that has a graph alone.
func (call countCall) list(g impl.Graph) ([]int64, int64) {
	return call.run(g, countArguments{})
}

// asList returns a number as a list.
func asList(count int64, code int64) ([]int64, int64) {
	if count == 0 {
		return nil, code
	}
	return []int64{count}, code
}

func countTreesCall() countCall {
	return countCall{"CountTrees", func(g impl.Graph, x countArguments) ([]int64, int64) { return asList(impl.CountTrees(g)) }}
}

func treesWithEdgeCall() countCall {
	return countCall{"TreesWithEdge", func(g impl.Graph, x countArguments) ([]int64, int64) { return asList(impl.TreesWithEdge(g, x.e)) }}
}

func polynomialAtCall() countCall {
	return countCall{"FlowPolynomialAt", func(g impl.Graph, x countArguments) ([]int64, int64) { return asList(impl.FlowPolynomialAt(g, x.x)) }}
}

func countWaysCall() countCall {
	return countCall{"CountWaysOf", func(g impl.Graph, x countArguments) ([]int64, int64) {
		return asList(impl.CountWaysOf(g, x.a, x.b, x.k))
	}}
}

// limitedCalls are the functions with a graph alone that have the limit MaxExpanded.
func limitedCalls() []countCall {
	return []countCall{
		{"FlowPolynomial", func(g impl.Graph, x countArguments) ([]int64, int64) { return impl.FlowPolynomial(g) }},
		{"CyclesByLength", func(g impl.Graph, x countArguments) ([]int64, int64) { return impl.CyclesByLength(g) }},
		{"CountRounds", func(g impl.Graph, x countArguments) ([]int64, int64) { return asList(impl.CountRounds(g)) }},
		{"CountForests", func(g impl.Graph, x countArguments) ([]int64, int64) { return asList(impl.CountForests(g)) }},
		{"CountConnecting", func(g impl.Graph, x countArguments) ([]int64, int64) { return asList(impl.CountConnecting(g)) }},
	}
}

func countCalls() []countCall {
	return append(limitedCalls(), countTreesCall(), treesWithEdgeCall(), polynomialAtCall(), countWaysCall())
}

// checkCode calls a function and looks at its code, and beside an error for the zero value.
func checkCode(t *testing.T, call countCall, g impl.Graph, x countArguments, want int64) {
	t.Helper()
	if list, code := call.run(g, x); code != want || code != impl.ErrNone && len(list) != 0 {
		t.Fatalf("%s(%v, %v) = %v, %d, not %d", call.name, g, x, list, code, want)
	}
}

// What is not a graph is told before numbers that are out of their ranges, and before limits.
func TestCountsOfNoGraphs(t *testing.T) {
	bad := badGraphs()
	for _, g := range []impl.Graph{named(t, "bridge"), named(t, "tietze"), cubicRing(14), cubicRing(20), thetas(t, 6), thetas(t, 7), parsed(t, leastBridge)} {
		g = copyGraph(g)
		slices.Reverse(g.Edges)
		bad = append(bad, badGraph{"edges out of order", g})
	}
	for _, bad := range bad {
		for _, x := range []countArguments{{0, 4, 0, 1, 3}, {-1, 11, -1, 0, 2}, {99, -11, 0, 99, 13}, {5, 0, 0, 0, 0}, {1<<63 - 1, -1 << 63, 1<<63 - 1, -1 << 63, -1}, {2, 10, 1, 1, 12}} {
			for _, call := range countCalls() {
				if list, code := call.run(bad.g, x); code != impl.ErrInvalid || len(list) != 0 {
					t.Errorf("%s: %s with %v = %v, %d", bad.why, call.name, x, list, code)
				}
			}
		}
	}
}

func TestTreesWithEdgesThatAreNone(t *testing.T) {
	for _, g := range graphsForErrors(t) {
		m := int64(len(g.Edges))
		for _, e := range append(numbersOfNoEdges(m), outside(m)...) {
			checkCode(t, treesWithEdgeCall(), g, countArguments{e: e}, impl.ErrRange)
		}
		for e := range m {
			checkCode(t, treesWithEdgeCall(), g, countArguments{e: e}, impl.ErrNone)
		}
	}
}

// Numbers at which there are no values are told before the limit, and for polynomials that are 0 too.
func TestPlacesOutOfRange(t *testing.T) {
	for _, g := range append(graphsForErrors(t), cubicRing(12), cubicRing(14), thetas(t, 6), thetas(t, 7), named(t, "tietze")) {
		for _, x := range []int64{-1 << 63, -1<<63 + 1, -1<<32 + 1, -1 << 32, -100, -21, -12, -11, 11, 12, 21, 100, 1 << 32, 1<<32 + 3, 1<<63 - 1} {
			checkCode(t, polynomialAtCall(), g, countArguments{x: x}, impl.ErrRange)
		}
		want := int64(impl.ErrNone)
		if g.Size > 12 {
			want = impl.ErrLimit
		}
		for x := int64(-10); x <= 10; x++ {
			checkCode(t, polynomialAtCall(), g, countArguments{x: x}, want)
		}
	}
}

// Each of the vertices and the length is looked at, whatever the others are.
func TestWaysOutOfRange(t *testing.T) {
	for _, g := range graphsForErrors(t) {
		for _, v := range outside(g.Size) {
			for _, x := range []countArguments{{a: v}, {b: v}, {a: v, b: v}, {a: v, k: 12}, {b: v, k: 12}, {a: v, k: 13}, {a: v, b: g.Size - 1, k: 1}, {a: g.Size - 1, b: v, k: 1}} {
				checkCode(t, countWaysCall(), g, x, impl.ErrRange)
			}
		}
		for _, k := range []int64{-1 << 63, -1 << 32, -12, -2, -1, 13, 14, 24, 1 << 32, 1<<32 + 1, 1<<63 - 1} {
			for _, x := range []countArguments{{k: k}, {b: 1, k: k}, {a: g.Size - 1, b: g.Size - 1, k: k}, {a: g.Size, k: k}} {
				checkCode(t, countWaysCall(), g, x, impl.ErrRange)
			}
		}
		for k := range int64(13) {
			for _, x := range []countArguments{{k: k}, {a: g.Size - 1, k: k}, {b: g.Size - 1, k: k}, {a: g.Size - 1, b: g.Size - 1, k: k}} {
				checkCode(t, countWaysCall(), g, x, impl.ErrNone)
			}
		}
	}
}

// Trees and ways have no limit, all other counts have.
func TestGraphsAboveMaxExpanded(t *testing.T) {
	graphs := []impl.Graph{cubicRing(10), cubicRing(12), cubicLadder(12), thetas(t, 6), named(t, "tietze"), parsed(t, doubledPetersen), parsed(t, flower3),
		beside(t, named(t, "theta"), named(t, "bridge")), beside(t, named(t, "k4"), named(t, "cube")), cubicRing(14), cubicLadder(14), thetas(t, 7), parsed(t, heawood),
		beside(t, named(t, "bridge"), named(t, "k4")), cubicRing(16), cubicLadder(18), cubicRing(20), cubicLadder(20), thetas(t, 10), named(t, "flower5")}
	for _, g := range graphs {
		want := int64(impl.ErrNone)
		if g.Size > 12 {
			want = impl.ErrLimit
		}
		for _, call := range append(limitedCalls(), polynomialAtCall()) {
			checkCode(t, call, g, countArguments{x: 4}, want)
		}
		for _, call := range []countCall{countTreesCall(), treesWithEdgeCall(), countWaysCall()} {
			checkCode(t, call, g, countArguments{k: 12}, impl.ErrNone)
		}
	}
}

func TestCountsLeaveArgumentsAsTheyAre(t *testing.T) {
	for _, name := range names() {
		g, all := behindEdges(named(t, name))
		before := slices.Clone(all)
		for _, call := range countCalls() {
			x := countArguments{e: 1, x: 3, a: 0, b: 1, k: 5}
			list, code := call.run(g, x)
			want := slices.Clone(list)
			fill(list)
			again, other := call.run(g, x)
			if !slices.Equal(again, want) || other != code {
				t.Errorf("%s of %s: %v, %d, then %v, %d", call.name, name, want, code, again, other)
			}
			if !slices.Equal(all, before) {
				t.Fatalf("%s: the edges of %s have become %v", call.name, name, all)
			}
		}
	}
}

func TestCountsShareNoMemory(t *testing.T) {
	for _, g := range []impl.Graph{named(t, "theta"), named(t, "k4"), named(t, "tietze"), named(t, "bridge"), thetas(t, 6)} {
		checkApart(t, func() [][]int64 {
			polynomial, _ := impl.FlowPolynomial(g)
			again, _ := impl.FlowPolynomial(g)
			counts, _ := impl.CyclesByLength(g)
			other, _ := impl.CyclesByLength(g)
			return [][]int64{polynomial, again, counts, other}
		})
	}
}
