package tests

import (
	"slices"
	"testing"

	"loop.example/g01329/impl"
)

func TestCountLimits(t *testing.T) {
	if impl.MaxExpanded != 12 || impl.MaxSteps != 12 {
		t.Error("MaxExpanded, MaxSteps", impl.MaxExpanded, impl.MaxSteps)
	}
}

// A numberCase is a graph for which a number is wanted.
type numberCase struct {
	why  string
	g    impl.Graph
	want int64
}

// checkNumbers calls a function that has a graph alone.
func checkNumbers(t *testing.T, name string, count func(g impl.Graph) (int64, int64), cases []numberCase) {
	t.Helper()
	for _, c := range cases {
		if n, code := count(c.g); n != c.want || code != impl.ErrNone {
			t.Errorf("%s of %s = %d, %d, not %d", name, c.why, n, code, c.want)
		}
	}
}

func TestCountTrees(t *testing.T) {
	theta, k4 := named(t, "theta"), named(t, "k4")
	checkNumbers(t, "CountTrees", impl.CountTrees, []numberCase{
		{"theta", theta, 3},
		{"k4", k4, 16},
		{"k33", named(t, "k33"), 81},
		{"prism", named(t, "prism"), 75},
		{"cube", named(t, "cube"), 384},
		{"petersen", named(t, "petersen"), 2000},
		{"bridge", named(t, "bridge"), 24 * 24},
		{"heawood", parsed(t, heawood), 50421},
		{"dodecahedron", parsed(t, dodecahedron), 5184000},
		{"two pairs of equal edges", parsed(t, twoDoubles), 12},
		{"two triangles with equal edges and a bridge", parsed(t, leastBridge), 25},
		{"two parts", thetas(t, 2), 0},
		{"ten parts", thetas(t, 10), 0},
		{"a great part behind a small one", beside(t, theta, named(t, "petersen")), 0},
		{"a small part behind a great one", beside(t, named(t, "petersen"), theta), 0},
		{"parts whose vertices come in turn", shuffled(t, beside(t, k4, k4)), 0},
		{"MaxVertices vertices in two parts", beside(t, named(t, "petersen"), named(t, "bridge")), 0},
	})
}

// Rings with opposite vertices joined have n / 2 times u + 2 trees, by halves of n, u being 4, 14, 52 and so on: each one is four times
// the one before, less the one before that. In ladders a way around is opened at one of h edges, or at one of h pairs.
func TestTreesOfRingsAndLadders(t *testing.T) {
	before, u := int64(2), int64(4)
	power := int64(1)
	for n := int64(4); n <= impl.MaxVertices; n += 2 {
		before, u = u, 4*u-before
		power *= 2
		h := n / 2
		if trees, code := impl.CountTrees(cubicRing(n)); 2*trees != h*(u+2) || code != impl.ErrNone {
			t.Errorf("CountTrees of the ring of %d = %d, %d", n, trees, code)
		}
		if trees, code := impl.CountTrees(cubicLadder(n)); trees != 3*h*power || code != impl.ErrNone {
			t.Errorf("CountTrees of the ladder of %d = %d, %d", n, trees, code)
		}
	}
}

func TestTreesWithEdge(t *testing.T) {
	for _, c := range []struct {
		why  string
		g    impl.Graph
		e    int64
		want int64
	}{
		{"theta, first", named(t, "theta"), 0, 1},
		{"theta, last", named(t, "theta"), 2, 1},
		{"k4, first", named(t, "k4"), 0, 8},
		{"k4, last", named(t, "k4"), 5, 8},
		{"k33", named(t, "k33"), 8, 45},
		{"cube", named(t, "cube"), 7, 224},
		{"petersen", named(t, "petersen"), 14, 1200},
		{"prism, in a triangle", named(t, "prism"), 0, 40},
		{"prism, between the triangles", named(t, "prism"), 2, 45},
		{"one of two equal edges", parsed(t, twoDoubles), 0, 5},
		{"the other one", parsed(t, twoDoubles), 1, 5},
		{"between equal edges", parsed(t, twoDoubles), 2, 8},
		{"a bridge", parsed(t, leastBridge), 4, 25},
		{"one of two equal edges before a bridge", parsed(t, leastBridge), 1, 10},
		{"beside them", parsed(t, leastBridge), 3, 15},
		{"two parts", thetas(t, 2), 0, 0},
		{"the last edge of ten parts", thetas(t, 10), 29, 0},
		{"an edge of the lesser part", beside(t, named(t, "petersen"), named(t, "theta")), 17, 0},
		{"dodecahedron", parsed(t, dodecahedron), 29, 5184000 / 30 * 19},
	} {
		if n, code := impl.TreesWithEdge(c.g, c.e); n != c.want || code != impl.ErrNone {
			t.Errorf("%s: TreesWithEdge = %d, %d, not %d", c.why, n, code, c.want)
		}
	}
}

func TestFlowPolynomial(t *testing.T) {
	for _, c := range []struct {
		why  string
		g    impl.Graph
		want []int64
	}{
		{"theta", named(t, "theta"), []int64{2, -3, 1}},
		{"k4", named(t, "k4"), []int64{-6, 11, -6, 1}},
		{"k33", named(t, "k33"), []int64{20, -42, 30, -9, 1}},
		{"prism", named(t, "prism"), []int64{18, -39, 29, -9, 1}},
		{"cube", named(t, "cube"), []int64{-64, 154, -137, 58, -12, 1}},
		{"petersen", named(t, "petersen"), []int64{240, -620, 624, -325, 95, -15, 1}},
		{"two pairs of equal edges", parsed(t, twoDoubles), []int64{-4, 8, -5, 1}},
		{"two parts", thetas(t, 2), []int64{4, -12, 13, -6, 1}},
		{"bridge", named(t, "bridge"), nil},
		{"a bridge between triangles", parsed(t, leastBridge), nil},
		{"three bridges", parsed(t, threeBridges), nil},
		{"bridges in a row", parsed(t, rowOfBridges), nil},
		{"a bridge in the second part", beside(t, named(t, "k4"), parsed(t, leastBridge)), nil},
		{"a bridge in the first part", beside(t, parsed(t, leastBridge), named(t, "k33")), nil},
	} {
		if list, code := impl.FlowPolynomial(c.g); !slices.Equal(list, c.want) || code != impl.ErrNone {
			t.Errorf("%s: FlowPolynomial = %v, %d, not %v", c.why, list, code, c.want)
		}
	}
}

func TestFlowPolynomialAt(t *testing.T) {
	theta, k4, petersen := named(t, "theta"), named(t, "k4"), named(t, "petersen")
	for _, c := range []struct {
		why  string
		g    impl.Graph
		x    int64
		want int64
	}{
		{"theta", theta, -10, 132},
		{"theta", theta, -1, 6},
		{"theta", theta, 0, 2},
		{"theta", theta, 1, 0},
		{"theta", theta, 2, 0},
		{"theta", theta, 3, 2},
		{"theta", theta, 10, 72},
		{"k4", k4, -10, -11 * 12 * 13},
		{"k4", k4, -1, -24},
		{"k4", k4, 0, -6},
		{"k4", k4, 3, 0},
		{"k4", k4, 4, 6},
		{"k4", k4, 10, 9 * 8 * 7},
		{"petersen", petersen, -10, 11 * 12 * 13 * 14 * 160},
		{"petersen", petersen, 0, 240},
		{"petersen", petersen, 4, 0},
		{"petersen", petersen, 5, 240},
		{"petersen", petersen, 6, 5 * 4 * 3 * 2 * 16},
		{"petersen", petersen, 10, 9 * 8 * 7 * 6 * 60},
		{"bridge", named(t, "bridge"), -10, 0},
		{"bridge", named(t, "bridge"), 0, 0},
		{"bridge", named(t, "bridge"), 6, 0},
		{"bridge", named(t, "bridge"), 10, 0},
		{"six parts", thetas(t, 6), -10, 132 * 132 * 132 * 132 * 132 * 132},
		{"six parts", thetas(t, 6), 0, 64},
		{"six parts", thetas(t, 6), 10, 72 * 72 * 72 * 72 * 72 * 72},
	} {
		if value, code := impl.FlowPolynomialAt(c.g, c.x); value != c.want || code != impl.ErrNone {
			t.Errorf("%s: FlowPolynomialAt %d = %d, %d, not %d", c.why, c.x, value, code, c.want)
		}
	}
}

// In a ladder all single edges have the same value, and each pair has two whose sum that is.
func TestFlowPolynomialsOfLadders(t *testing.T) {
	for n := int64(4); n <= impl.MaxExpanded; n += 2 {
		for x := int64(-10); x <= 10; x++ {
			want := x - 1
			for range n / 2 {
				want *= x - 2
			}
			if value, code := impl.FlowPolynomialAt(cubicLadder(n), x); value != want || code != impl.ErrNone {
				t.Errorf("FlowPolynomialAt of the ladder of %d and %d = %d, %d, not %d", n, x, value, code, want)
			}
		}
	}
}

func TestCyclesByLength(t *testing.T) {
	for _, c := range []struct {
		why  string
		g    impl.Graph
		want []int64
	}{
		{"theta", named(t, "theta"), []int64{0, 0, 3}},
		{"k4", named(t, "k4"), []int64{0, 0, 0, 4, 3}},
		{"k33", named(t, "k33"), []int64{0, 0, 0, 0, 9, 0, 6}},
		{"prism", named(t, "prism"), []int64{0, 0, 0, 2, 3, 6, 3}},
		{"cube", named(t, "cube"), []int64{0, 0, 0, 0, 6, 0, 16, 0, 6}},
		{"petersen", named(t, "petersen"), []int64{0, 0, 0, 0, 0, 12, 10, 0, 15, 20, 0}},
		{"bridge", named(t, "bridge"), []int64{0, 0, 0, 4, 6, 4, 0, 0, 0, 0, 0}},
		{"two pairs of equal edges", parsed(t, twoDoubles), []int64{0, 0, 2, 0, 4}},
		{"a bridge between triangles", parsed(t, leastBridge), []int64{0, 0, 2, 4, 0, 0, 0}},
		{"six parts", thetas(t, 6), []int64{0, 0, 18, 0, 0, 0, 0, 0, 0, 0, 0, 0, 0}},
		{"parts of different kinds", beside(t, named(t, "theta"), named(t, "k4")), []int64{0, 0, 3, 4, 3, 0, 0}},
	} {
		if list, code := impl.CyclesByLength(c.g); !slices.Equal(list, c.want) || code != impl.ErrNone {
			t.Errorf("%s: CyclesByLength = %v, %d, not %v", c.why, list, code, c.want)
		}
	}
}

func TestCountRounds(t *testing.T) {
	k4 := named(t, "k4")
	checkNumbers(t, "CountRounds", impl.CountRounds, []numberCase{
		{"theta", named(t, "theta"), 3},
		{"k4", k4, 3},
		{"k33", named(t, "k33"), 6},
		{"prism", named(t, "prism"), 3},
		{"cube", named(t, "cube"), 6},
		{"petersen", named(t, "petersen"), 0},
		{"tietze", named(t, "tietze"), 0},
		{"bridge", named(t, "bridge"), 0},
		{"two pairs of equal edges", parsed(t, twoDoubles), 4},
		{"a ladder of MaxExpanded vertices", cubicLadder(12), 64},
		{"two parts, each with a cycle", beside(t, k4, k4), 0},
		{"two small parts", thetas(t, 2), 0},
		{"six parts", thetas(t, 6), 0},
	})
}

func TestCountForests(t *testing.T) {
	checkNumbers(t, "CountForests", impl.CountForests, []numberCase{
		{"theta, with the empty set", named(t, "theta"), 4},
		{"k4", named(t, "k4"), 38},
		{"k33", named(t, "k33"), 328},
		{"petersen", named(t, "petersen"), 22292},
		{"two parts", thetas(t, 2), 16},
		{"six parts", thetas(t, 6), 4096},
		{"two pairs of equal edges", parsed(t, twoDoubles), 32},
		// On each side of the bridge they have none, one or two of four edges, but not both equal ones.
		{"a bridge between triangles", parsed(t, leastBridge), (1 + 4 + 5) * (1 + 4 + 5) * 2},
	})
}

func TestCountConnecting(t *testing.T) {
	checkNumbers(t, "CountConnecting", impl.CountConnecting, []numberCase{
		{"theta", named(t, "theta"), 7},
		{"k4", named(t, "k4"), 38},
		{"k33", named(t, "k33"), 205},
		{"petersen", named(t, "petersen"), 5968},
		{"two pairs of equal edges", parsed(t, twoDoubles), 33},
		// On each side of the bridge they have two of four edges, but not both equal ones, or more.
		{"a bridge between triangles", parsed(t, leastBridge), (5 + 4 + 1) * (5 + 4 + 1)},
		{"two parts", thetas(t, 2), 0},
		{"six parts", thetas(t, 6), 0},
		{"parts whose vertices come in turn", shuffled(t, beside(t, named(t, "k4"), named(t, "k4"))), 0},
	})
}

func TestCountWaysOf(t *testing.T) {
	theta, k4, cube, two := named(t, "theta"), named(t, "k4"), named(t, "cube"), thetas(t, 2)
	for _, c := range []struct {
		why     string
		g       impl.Graph
		a, b, k int64
		want    int64
	}{
		{"no edges, from a vertex to itself", k4, 2, 2, 0, 1},
		{"no edges, to another one", k4, 2, 3, 0, 0},
		{"one edge", k4, 0, 3, 1, 1},
		{"one edge to itself", k4, 1, 1, 1, 0},
		{"an edge to and fro", k4, 0, 0, 2, 3},
		{"a triangle in both directions", k4, 0, 0, 3, 6},
		{"around and along", k4, 0, 1, 3, 7},
		{"each of equal edges", theta, 0, 1, 1, 3},
		{"each of equal edges, three times", theta, 1, 0, 3, 27},
		{"back with two edges", theta, 1, 1, 2, 9},
		{"not back with one", theta, 0, 0, 1, 0},
		{"MaxSteps edges", theta, 0, 0, 12, 531441},
		{"MaxSteps edges to the other kind", theta, 0, 1, 12, 0},
		{"MaxSteps edges in k4", k4, 0, 0, 12, (531441 + 3) / 4},
		{"MaxSteps edges in k4 to another one", k4, 3, 0, 12, (531441 - 1) / 4},
		{"MaxSteps edges in cube", cube, 0, 7, 12, 0},
		{"to the farthest vertex", cube, 0, 7, 3, 6},
		{"not in two edges", cube, 7, 0, 2, 0},
		{"one or two edges of two pairs", parsed(t, twoDoubles), 0, 1, 1, 2},
		{"along both pairs", parsed(t, twoDoubles), 0, 3, 2, 4},
		{"another part", two, 0, 2, 1, 0},
		{"another part, MaxSteps edges", two, 3, 0, 12, 0},
		{"another part, no edges", two, 0, 2, 0, 0},
		{"within the second part", two, 2, 3, 3, 27},
		{"across a bridge", parsed(t, leastBridge), 2, 3, 1, 1},
		{"from side to side", parsed(t, leastBridge), 0, 5, 3, 1},
		{"MaxVertices vertices, along the ring", cubicRing(20), 0, 19, 1, 1},
	} {
		if n, code := impl.CountWaysOf(c.g, c.a, c.b, c.k); n != c.want || code != impl.ErrNone {
			t.Errorf("%s: CountWaysOf = %d, %d, not %d", c.why, n, code, c.want)
		}
	}
}
