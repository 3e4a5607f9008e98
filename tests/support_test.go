package tests

import (
	"math/rand"
	"slices"
	"testing"

	"loop.example/g01329/impl"
)

// names are the names of all graphs that have one.
func names() []string {
	return []string{"theta", "k4", "k33", "prism", "cube", "petersen", "tietze", "flower5", "bridge"}
}

// named returns the graph with a name.
func named(t *testing.T, name string) impl.Graph {
	t.Helper()
	g, code := impl.NamedGraph(name)
	if code != impl.ErrNone {
		t.Fatalf("NamedGraph(%q): code %d", name, code)
	}
	return g
}

// beside returns two graphs beside each other.
func beside(t *testing.T, g impl.Graph, h impl.Graph) impl.Graph {
	t.Helper()
	both, code := impl.PutBeside(g, h)
	if code != impl.ErrNone {
		t.Fatalf("PutBeside(%v, %v): code %d", g, h, code)
	}
	return both
}

func isZeroGraph(g impl.Graph) bool {
	return g.Size == 0 && len(g.Edges) == 0
}

func sameGraph(g impl.Graph, h impl.Graph) bool {
	return g.Size == h.Size && slices.Equal(g.Edges, h.Edges)
}

func copyGraph(g impl.Graph) impl.Graph {
	return impl.Graph{Size: g.Size, Edges: slices.Clone(g.Edges)}
}

// sorted returns edges with their lesser vertices first, in order.
func sorted(edges []impl.Edge) []impl.Edge {
	list := slices.Clone(edges)
	for i, e := range list {
		if e[1] < e[0] {
			list[i] = impl.Edge{e[1], e[0]}
		}
	}
	slices.SortFunc(list, func(a, b impl.Edge) int { return slices.Compare(a[:], b[:]) })
	return list
}

// cubicRing returns a graph, or what would be one, of any even number of vertices: the cycle of all
// of them, with opposite ones joined.
func cubicRing(n int64) impl.Graph {
	var edges []impl.Edge
	for v := range n {
		edges = append(edges, impl.Edge{v, (v + 1) % n})
	}
	for v := range n / 2 {
		edges = append(edges, impl.Edge{v, v + n/2})
	}
	return impl.Graph{Size: n, Edges: sorted(edges)}
}

// cubicLadder returns a graph of n vertices in which n / 2 pairs of equal edges are joined to a ring.
func cubicLadder(n int64) impl.Graph {
	var edges []impl.Edge
	for v := int64(0); v < n; v += 2 {
		edges = append(edges, impl.Edge{v, v + 1}, impl.Edge{v, v + 1}, impl.Edge{v + 1, (v + 2) % n})
	}
	return impl.Graph{Size: n, Edges: sorted(edges)}
}

// drawnGraphs returns some graphs of each Size, always the same ones, made without the program.
func drawnGraphs(each int) []impl.Graph {
	draw := rand.New(rand.NewSource(7))
	var graphs []impl.Graph
	for n := int64(2); n <= impl.MaxVertices; n += 2 {
		for range each {
			graphs = append(graphs, drawnGraph(draw, n))
		}
	}
	return graphs
}

func drawnGraph(draw *rand.Rand, n int64) impl.Graph {
	for {
		ends := draw.Perm(int(3 * n))
		var edges []impl.Edge
		for i := 0; i < len(ends); i += 2 {
			a, b := int64(ends[i]/3), int64(ends[i+1]/3)
			if a != b {
				edges = append(edges, impl.Edge{a, b})
			}
		}
		if int64(len(edges)) == 3*n/2 {
			return impl.Graph{Size: n, Edges: sorted(edges)}
		}
	}
}

// goodGraphs returns graphs with names, connected and not, with equal edges and without.
func goodGraphs(t *testing.T) []impl.Graph {
	t.Helper()
	graphs := drawnGraphs(12)
	for _, name := range names() {
		graphs = append(graphs, named(t, name))
	}
	for n := int64(4); n <= impl.MaxVertices; n += 2 {
		graphs = append(graphs, cubicRing(n), cubicLadder(n))
	}
	theta, k4, cube := named(t, "theta"), named(t, "k4"), named(t, "cube")
	return append(graphs, beside(t, theta, theta), beside(t, theta, k4), beside(t, k4, theta),
		beside(t, beside(t, theta, cube), named(t, "petersen")), beside(t, named(t, "petersen"), named(t, "bridge")))
}

type badGraph struct {
	why string
	g   impl.Graph
}

// badGraphs returns what is not a graph, each for one reason.
func badGraphs() []badGraph {
	k4 := []impl.Edge{{0, 1}, {0, 2}, {0, 3}, {1, 2}, {1, 3}, {2, 3}}
	changed := func(i int, e impl.Edge) []impl.Edge {
		edges := slices.Clone(k4)
		edges[i] = e
		return edges
	}
	return []badGraph{
		{"zero value", impl.Graph{}},
		{"no edges", impl.Graph{Size: 4}},
		{"Size 0 with edges", impl.Graph{Size: 0, Edges: k4}},
		{"negative Size", impl.Graph{Size: -4, Edges: k4}},
		{"least Size", impl.Graph{Size: -1 << 63, Edges: k4}},
		{"greatest Size", impl.Graph{Size: 1<<63 - 1, Edges: k4}},
		{"Size whose threefold overflows", impl.Graph{Size: 1<<62 + 4, Edges: k4}},
		{"odd Size", impl.Graph{Size: 3, Edges: []impl.Edge{{0, 1}, {0, 1}, {0, 2}, {1, 2}}}},
		{"odd Size 1", impl.Graph{Size: 1, Edges: []impl.Edge{{0, 0}}}},
		{"Size 22", cubicRing(22)},
		{"Size 21", impl.Graph{Size: 21, Edges: cubicRing(20).Edges}},
		{"Size too great by 2", impl.Graph{Size: 6, Edges: k4}},
		{"Size too small by 2", impl.Graph{Size: 2, Edges: k4}},
		{"one edge too few", impl.Graph{Size: 4, Edges: k4[:5]}},
		{"one edge too many", impl.Graph{Size: 4, Edges: append(slices.Clone(k4), impl.Edge{2, 3})}},
		{"greater vertex first", impl.Graph{Size: 4, Edges: changed(5, impl.Edge{3, 2})}},
		{"greater vertex first at the first edge", impl.Graph{Size: 2, Edges: []impl.Edge{{1, 0}, {0, 1}, {0, 1}}}},
		{"second vertices out of order", impl.Graph{Size: 4, Edges: []impl.Edge{{0, 2}, {0, 1}, {0, 3}, {1, 2}, {1, 3}, {2, 3}}}},
		{"first vertices out of order", impl.Graph{Size: 4, Edges: []impl.Edge{{0, 1}, {0, 2}, {1, 2}, {0, 3}, {1, 3}, {2, 3}}}},
		{"last edges out of order", impl.Graph{Size: 4, Edges: []impl.Edge{{0, 1}, {0, 2}, {0, 3}, {1, 2}, {2, 3}, {1, 3}}}},
		{"vertex n", impl.Graph{Size: 4, Edges: changed(5, impl.Edge{2, 4})}},
		{"vertex -1", impl.Graph{Size: 4, Edges: changed(0, impl.Edge{-1, 1})}},
		{"far vertices", impl.Graph{Size: 4, Edges: changed(5, impl.Edge{-1 << 63, 1<<63 - 1})}},
		{"equal vertices", impl.Graph{Size: 2, Edges: []impl.Edge{{0, 0}, {0, 1}, {1, 1}}}},
		{"a vertex on four edges", impl.Graph{Size: 4, Edges: []impl.Edge{{0, 1}, {0, 1}, {0, 2}, {0, 3}, {1, 2}, {2, 3}}}},
		{"a vertex on no edge", impl.Graph{Size: 4, Edges: []impl.Edge{{0, 1}, {0, 1}, {0, 2}, {0, 2}, {1, 2}, {1, 2}}}},
		{"only the last vertex on two edges", impl.Graph{Size: 4, Edges: []impl.Edge{{0, 1}, {0, 1}, {0, 2}, {1, 2}, {2, 3}, {2, 3}}}},
	}
}
