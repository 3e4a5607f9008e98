package tests

import (
	"testing"

	"loop.example/g01329/impl"
)

const (
	// dodecahedron has a girth of 5, a colouring, and no cyclic cut of at most MaxCut edges.
	dodecahedron = "20:0-1,0-4,0-5,1-2,1-6,2-3,2-7,3-4,3-8,4-9,5-10,5-14,6-10,6-11,7-11,7-12,8-12,8-13,9-13,9-14,10-15,11-16,12-17,13-18,14-19,15-16,15-19,16-17,17-18,18-19"
	// heawood has a girth of 6.
	heawood = "14:0-1,0-5,0-13,1-2,1-10,2-3,2-7,3-4,3-12,4-5,4-9,5-6,6-7,6-11,7-8,8-9,8-13,9-10,10-11,11-12,12-13"
	// joinedPetersens are two graphs petersen that lack an edge each, with two edges between them. They have a girth of 5,
	// no colouring, and a cyclic cut of two edges.
	joinedPetersens = "20:0-4,0-5,0-10,1-2,1-6,1-11,2-3,2-7,3-4,3-8,4-9,5-7,5-8,6-8,6-9,7-9,10-14,10-15,11-12,11-16,12-13,12-17,13-14,13-18,14-19,15-17,15-18,16-18,16-19,17-19"
	flower3         = "12:0-3,0-6,0-9,1-4,1-7,1-10,2-5,2-8,2-11,3-4,3-5,4-5,6-7,6-11,7-8,8-9,9-10,10-11"
)

// checkMade looks at a graph that has been made, or at the code beside none.
func checkMade(t *testing.T, call string, made impl.Graph, code int64, want impl.Graph, wanted int64) {
	t.Helper()
	if code != wanted || !sameGraph(made, want) {
		t.Fatalf("%s = %v, %d, not %v, %d", call, made, code, want, wanted)
	}
	if code == impl.ErrNone && !impl.IsGraph(made) {
		t.Fatalf("%s = %v is not a graph", call, made)
	}
}

// checkTextOf looks at the text of a graph that has been made. The text is empty if there is to be ErrState.
func checkTextOf(t *testing.T, call string, made impl.Graph, code int64, want string) {
	t.Helper()
	if want == "" {
		checkMade(t, call, made, code, impl.Graph{}, impl.ErrState)
		return
	}
	checkMade(t, call, made, code, parsed(t, want), impl.ErrNone)
}

func TestDotProducts(t *testing.T) {
	const k4, prism = "4:0-1,0-2,0-3,1-2,1-3,2-3", "6:0-1,0-2,0-3,1-2,1-4,2-5,3-4,3-5,4-5"
	for _, c := range []struct {
		g    string
		e, f int64
		h    string
		a, b int64
		want string
	}{
		{k4, 0, 5, k4, 0, 1, "6:0-2,0-3,0-4,1-2,1-3,1-5,2-4,3-5,4-5"},
		{k4, 1, 4, k4, 3, 2, "6:0-1,0-3,0-4,1-2,1-4,2-3,2-5,3-5,4-5"},
		// Which edge is e, and which vertex is a.
		{k4, 0, 5, prism, 0, 3, "8:0-2,0-3,0-4,1-2,1-3,1-5,2-6,3-7,4-5,4-6,5-7,6-7"},
		{k4, 5, 0, prism, 0, 3, "8:0-2,0-3,0-6,1-2,1-3,1-7,2-4,3-5,4-5,4-6,5-7,6-7"},
		{k4, 0, 5, prism, 3, 0, "8:0-2,0-3,0-6,1-2,1-3,1-7,2-4,3-5,4-5,4-6,5-7,6-7"},
		// r and s, and t and w, are equal; then only r and s; then only t and w.
		{k4, 0, 5, twoDoubles, 0, 2, "6:0-2,0-3,0-4,1-2,1-3,1-4,2-5,3-5,4-5"},
		{k4, 0, 5, twoDoubles, 3, 1, "6:0-2,0-3,0-5,1-2,1-3,1-5,2-4,3-4,4-5"},
		{k4, 0, 5, leastBridge, 0, 2, "8:0-2,0-3,0-4,1-2,1-3,1-4,2-4,3-5,5-6,5-7,6-7,6-7"},
		{k4, 0, 5, leastBridge, 2, 0, "8:0-2,0-3,0-4,1-2,1-3,1-5,2-4,3-4,5-6,5-7,6-7,6-7"},
		// a and b are joined by a bridge; e and f are in two parts, and one of equal edges.
		{k4, 0, 5, leastBridge, 2, 3, "8:0-2,0-3,0-4,1-2,1-3,1-5,2-6,3-7,4-5,4-5,6-7,6-7"},
		{"4:0-1,0-1,0-1,2-3,2-3,2-3", 0, 3, k4, 2, 3, "6:0-1,0-1,0-4,1-5,2-3,2-3,2-4,3-5,4-5"},
		{"4:0-1,0-1,0-1,2-3,2-3,2-3", 5, 2, k4, 2, 3, "6:0-1,0-1,0-4,1-5,2-3,2-3,2-4,3-5,4-5"},
		// e and f have a common vertex, or are equal; a and b are joined by no edge, by two, or are equal.
		{k4, 0, 1, k4, 0, 1, ""},
		{k4, 0, 0, k4, 0, 1, ""},
		{k4, 5, 4, k4, 0, 1, ""},
		{twoDoubles, 0, 1, k4, 0, 1, ""},
		{"2:0-1,0-1,0-1", 0, 1, k4, 0, 1, ""},
		{k4, 0, 5, k4, 1, 1, ""},
		{k4, 0, 5, prism, 0, 4, ""},
		{k4, 0, 5, twoDoubles, 0, 1, ""},
		{k4, 0, 5, twoDoubles, 0, 3, ""},
		{k4, 0, 5, "2:0-1,0-1,0-1", 0, 1, ""},
	} {
		made, code := impl.DotProduct(parsed(t, c.g), c.e, c.f, parsed(t, c.h), c.a, c.b)
		checkTextOf(t, "DotProduct", made, code, c.want)
	}
}

func TestStarProducts(t *testing.T) {
	const k4, theta = "4:0-1,0-2,0-3,1-2,1-3,2-3", "2:0-1,0-1,0-1"
	for _, c := range []struct {
		g    string
		v    int64
		h    string
		w    int64
		want string
	}{
		{k4, 0, k4, 3, "6:0-1,0-2,0-3,1-2,1-4,2-5,3-4,3-5,4-5"},
		{k4, 3, k4, 0, "6:0-1,0-2,0-3,1-2,1-4,2-5,3-4,3-5,4-5"},
		{twoDoubles, 0, k4, 0, "6:0-2,0-3,0-4,1-2,1-2,1-5,3-4,3-5,4-5"},
		{k4, 0, twoDoubles, 0, "6:0-1,0-2,0-3,1-2,1-3,2-4,3-5,4-5,4-5"},
		{twoDoubles, 0, twoDoubles, 0, "6:0-2,0-3,0-3,1-2,1-2,1-4,3-5,4-5,4-5"},
		{twoDoubles, 0, twoDoubles, 2, "6:0-2,0-3,0-5,1-2,1-2,1-5,3-4,3-4,4-5"},
		// A graph of two parts is left with a part of two vertices.
		{"4:0-1,0-1,0-1,2-3,2-3,2-3", 0, k4, 0, "6:0-3,0-4,0-5,1-2,1-2,1-2,3-4,3-5,4-5"},
		{theta, 0, k4, 0, ""},
		{k4, 0, theta, 1, ""},
		{theta, 1, theta, 1, ""},
	} {
		made, code := impl.StarProduct(parsed(t, c.g), c.v, parsed(t, c.h), c.w)
		checkTextOf(t, "StarProduct", made, code, c.want)
	}
}

func TestOpenVertex(t *testing.T) {
	for _, c := range []struct {
		g    string
		v    int64
		want string
	}{
		{"2:0-1,0-1,0-1", 0, "4:0-1,0-2,0-3,1-2,1-3,2-3"},
		{"2:0-1,0-1,0-1", 1, "4:0-1,0-2,0-3,1-2,1-3,2-3"},
		{"4:0-1,0-2,0-3,1-2,1-3,2-3", 0, "6:0-1,0-4,0-5,1-2,1-3,2-3,2-4,3-5,4-5"},
		{"4:0-1,0-2,0-3,1-2,1-3,2-3", 1, "6:0-1,0-2,0-3,1-4,1-5,2-3,2-4,3-5,4-5"},
		{"4:0-1,0-2,0-3,1-2,1-3,2-3", 3, "6:0-1,0-2,0-3,1-2,1-4,2-5,3-4,3-5,4-5"},
		{twoDoubles, 0, "6:0-1,0-4,0-5,1-3,1-4,2-3,2-3,2-5,4-5"},
		{twoDoubles, 3, "6:0-1,0-1,0-2,1-3,2-4,2-5,3-4,3-5,4-5"},
		{textOf(named(t, "petersen")), 0, textOf(named(t, "tietze"))},
	} {
		made, code := impl.OpenVertex(parsed(t, c.g), c.v)
		checkTextOf(t, "OpenVertex", made, code, c.want)
	}
}

func TestShrinkTriangle(t *testing.T) {
	k4, prism, bridge := named(t, "k4"), named(t, "prism"), named(t, "bridge")
	for _, c := range []struct {
		g       impl.Graph
		a, b, c int64
		want    string
	}{
		{k4, 0, 1, 2, "2:0-1,0-1,0-1"},
		{k4, 1, 2, 3, "2:0-1,0-1,0-1"},
		{prism, 0, 1, 2, "4:0-1,0-2,0-3,1-2,1-3,2-3"},
		{prism, 3, 4, 5, "4:0-1,0-2,0-3,1-2,1-3,2-3"},
		{named(t, "tietze"), 0, 10, 11, textOf(named(t, "petersen"))},
		{parsed(t, flower3), 3, 4, 5, "10:0-3,0-4,0-7,1-3,1-5,1-8,2-3,2-6,2-9,4-5,4-9,5-6,6-7,7-8,8-9"},
		{bridge, 0, 2, 3, "8:0-1,0-1,0-2,1-2,2-7,3-5,3-6,3-7,4-5,4-6,4-7,5-6"},
		// Not three different vertices; not joined; two of them joined by two edges; in different parts.
		{k4, 2, 2, 2, ""},
		{k4, 0, 0, 1, ""},
		{prism, 0, 1, 3, ""},
		{prism, 0, 1, 5, ""},
		{named(t, "cube"), 0, 1, 3, ""},
		{named(t, "theta"), 0, 1, 1, ""},
		{parsed(t, leastBridge), 0, 1, 2, ""},
		{parsed(t, leastBridge), 3, 4, 5, ""},
		{bridge, 0, 1, 2, ""},
		{beside(t, k4, k4), 0, 1, 4, ""},
		{parsed(t, "4:0-1,0-1,0-1,2-3,2-3,2-3"), 0, 1, 2, ""},
	} {
		for _, p := range [][3]int64{{c.a, c.b, c.c}, {c.a, c.c, c.b}, {c.b, c.a, c.c}, {c.b, c.c, c.a}, {c.c, c.a, c.b}, {c.c, c.b, c.a}} {
			made, code := impl.ShrinkTriangle(c.g, p[0], p[1], p[2])
			checkTextOf(t, "ShrinkTriangle", made, code, c.want)
		}
	}
}

func TestBridgeEdges(t *testing.T) {
	const k4 = "4:0-1,0-2,0-3,1-2,1-3,2-3"
	for _, c := range []struct {
		g    string
		e, f int64
		want string
	}{
		{"2:0-1,0-1,0-1", 0, 1, k4},
		{"2:0-1,0-1,0-1", 2, 0, k4},
		{k4, 0, 5, "6:0-2,0-3,0-4,1-2,1-3,1-4,2-5,3-5,4-5"},
		{k4, 5, 0, "6:0-2,0-3,0-5,1-2,1-3,1-5,2-4,3-4,4-5"},
		{k4, 0, 1, "6:0-3,0-4,0-5,1-2,1-3,1-4,2-3,2-5,4-5"},
		{twoDoubles, 0, 1, "6:0-2,0-4,0-5,1-3,1-4,1-5,2-3,2-3,4-5"},
		{"4:0-1,0-1,0-1,2-3,2-3,2-3", 0, 3, "6:0-1,0-1,0-4,1-4,2-3,2-3,2-5,3-5,4-5"},
		{k4, 0, 0, ""},
		{k4, 5, 5, ""},
		{"2:0-1,0-1,0-1", 1, 1, ""},
	} {
		made, code := impl.BridgeEdges(parsed(t, c.g), c.e, c.f)
		checkTextOf(t, "BridgeEdges", made, code, c.want)
	}
}

func TestCutEdge(t *testing.T) {
	const k4, theta = "4:0-1,0-2,0-3,1-2,1-3,2-3", "2:0-1,0-1,0-1"
	for _, c := range []struct {
		g    string
		e    int64
		want string
	}{
		{k4, 0, theta},
		{k4, 5, theta},
		{textOf(named(t, "cube")), 0, "6:0-1,0-2,0-4,1-3,1-5,2-3,2-4,3-5,4-5"},
		{textOf(named(t, "cube")), 11, "6:0-1,0-2,0-4,1-3,1-5,2-3,2-4,3-5,4-5"},
		{textOf(named(t, "prism")), 2, "4:0-1,0-1,0-2,1-3,2-3,2-3"},
		// Bridges are cut such that there are two parts.
		{textOf(named(t, "bridge")), 7, "8:0-1,0-2,0-3,1-2,1-3,2-3,4-5,4-6,4-7,5-6,5-7,6-7"},
		{leastBridge, 4, "4:0-1,0-1,0-1,2-3,2-3,2-3"},
		// Another edge joins the vertices; both other ends at the lesser one, or at the greater one, are equal.
		{leastBridge, 0, ""},
		{leastBridge, 1, ""},
		{leastBridge, 2, ""},
		{leastBridge, 3, ""},
		{leastBridge, 5, ""},
		{leastBridge, 6, ""},
		{leastBridge, 8, ""},
		{twoDoubles, 2, ""},
		{twoDoubles, 3, ""},
		{theta, 0, ""},
		{theta, 2, ""},
		{"4:0-1,0-1,0-1,2-3,2-3,2-3", 5, ""},
	} {
		made, code := impl.CutEdge(parsed(t, c.g), c.e)
		checkTextOf(t, "CutEdge", made, code, c.want)
	}
}

func TestFlowerGraphs(t *testing.T) {
	made, code := impl.FlowerGraph(3)
	checkTextOf(t, "FlowerGraph(3)", made, code, flower3)
	made, code = impl.FlowerGraph(5)
	checkMade(t, "FlowerGraph(5)", made, code, named(t, "flower5"), impl.ErrNone)
	for _, k := range []int64{-1 << 63, -5, -3, -1, 0, 1, 2, 4, 6, 7, 9, 10, 1<<32 + 3, 1<<32 + 5, 1<<63 - 1} {
		made, code := impl.FlowerGraph(k)
		checkMade(t, "FlowerGraph", made, code, impl.Graph{}, impl.ErrRange)
	}
}

func TestIsSnark(t *testing.T) {
	petersen := named(t, "petersen")
	shrunk, _ := impl.ShrinkTriangle(parsed(t, flower3), 3, 4, 5)
	star, _ := impl.StarProduct(petersen, 0, petersen, 9)
	for _, c := range []struct {
		why  string
		g    impl.Graph
		want bool
	}{
		{"petersen", petersen, true},
		{"petersen, renumbered", turned(t, parsed(t, "10:0-1,0-4,0-5,1-2,1-6,2-3,2-7,3-4,3-8,4-9,5-7,5-8,6-8,6-9,7-9")), true},
		{"flower5", named(t, "flower5"), true},
		{"shrunk flower graph of 3", shrunk, true},
		{"flower graph of 3: a triangle", parsed(t, flower3), false},
		{"tietze: a triangle", named(t, "tietze"), false},
		{"a colouring, a girth of 5", parsed(t, dodecahedron), false},
		{"a colouring, a girth of 6", parsed(t, heawood), false},
		{"a colouring, a girth of 4", named(t, "cube"), false},
		{"a colouring, no cyclic cut at all", named(t, "k4"), false},
		{"theta", named(t, "theta"), false},
		{"k33", named(t, "k33"), false},
		{"a bridge", named(t, "bridge"), false},
		{"two snarks beside each other", beside(t, petersen, petersen), false},
		{"a snark beside another graph", beside(t, petersen, named(t, "k4")), false},
		{"a cyclic cut of two edges", parsed(t, joinedPetersens), false},
		{"a cyclic cut of three edges", star, false},
		{"equal edges, no colouring", parsed(t, doubledPetersen), false},
	} {
		yes, code := impl.IsSnark(c.g)
		if yes != c.want || code != impl.ErrNone || refIsSnark(c.g) != c.want {
			t.Errorf("%s: IsSnark(%v) = %v, %d", c.why, c.g, yes, code)
		}
	}
}

// What the graphs with texts are told to be: what makes them none but nearly snarks.
func TestGraphsThatAreNearlySnarks(t *testing.T) {
	for _, c := range []struct {
		text   string
		girth  int64
		has    bool
		cyclic int64
	}{{dodecahedron, 5, true, 0}, {heawood, 6, true, 0}, {joinedPetersens, 5, false, 2}, {flower3, 3, false, 3}} {
		g := parsed(t, c.text)
		girth, _ := impl.GirthOf(g)
		has, _ := impl.HasColouring(g)
		cyclic, _ := impl.CyclicConnectivity(g)
		if girth != c.girth || has != c.has || cyclic != c.cyclic {
			t.Errorf("%s: girth %d, has a colouring: %v, cyclic connectivity %d", c.text, girth, has, cyclic)
		}
	}
}

// Each dot product of the graph petersen with itself is a snark, with a cyclic connectivity of just 4.
func TestDotProductsOfSnarks(t *testing.T) {
	petersen := named(t, "petersen")
	for f := int64(1); f < 15; f++ {
		for _, ends := range []impl.Edge{petersen.Edges[0], petersen.Edges[14]} {
			made, code := impl.DotProduct(petersen, 0, f, petersen, ends[1], ends[0])
			want, wanted := refDot(petersen, 0, f, petersen, ends[1], ends[0])
			checkMade(t, "DotProduct", made, code, want, wanted)
			if code != impl.ErrNone {
				continue
			}
			yes, code := impl.IsSnark(made)
			k, _ := impl.CyclicConnectivity(made)
			if !yes || code != impl.ErrNone || k != 4 {
				t.Fatalf("IsSnark(%v) = %v, %d, cyclic connectivity %d", made, yes, code, k)
			}
		}
	}
}

func TestIsSnarkAgainstCutsOfVertices(t *testing.T) {
	for _, g := range graphsWithFlows(t) {
		if yes, code := impl.IsSnark(g); yes != refIsSnark(g) || code != impl.ErrNone {
			t.Fatalf("IsSnark(%v) = %v, %d", g, yes, code)
		}
	}
}
