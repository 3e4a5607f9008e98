package tests

import (
	"testing"

	"loop.example/g01329/impl"
)

// graphsForProducts returns graphs of all kinds, each of which is taken with each other one, so that there are not many:
// with equal edges, with bridges, with triangles, of several parts, without colourings, and of many Sizes.
func graphsForProducts(t *testing.T) []impl.Graph {
	t.Helper()
	var graphs []impl.Graph
	for _, name := range names() {
		graphs = append(graphs, named(t, name))
	}
	for _, text := range []string{twoDoubles, leastBridge, rowOfBridges, doubledPetersen} {
		graphs = append(graphs, parsed(t, text))
	}
	k4 := named(t, "k4")
	return append(graphs, cubicLadder(6), cubicRing(12), cubicLadder(14), cubicRing(16), cubicLadder(18), thetas(t, 2), thetas(t, 4),
		beside(t, named(t, "theta"), k4), turned(t, beside(t, k4, named(t, "prism"))))
}

// withoutColourings returns graphs that have no colouring.
func withoutColourings(t *testing.T) []impl.Graph {
	t.Helper()
	graphs := []impl.Graph{named(t, "petersen"), named(t, "tietze"), named(t, "bridge"), named(t, "flower5"), parsed(t, flower3)}
	for _, text := range []string{leastBridge, rowOfBridges, threeBridges, doubledPetersen} {
		graphs = append(graphs, parsed(t, text))
	}
	return append(graphs, beside(t, parsed(t, leastBridge), named(t, "theta")), beside(t, named(t, "k4"), parsed(t, rowOfBridges)))
}

// numbersWith returns some of the numbers 0 to n - 1, the least and the greatest one among them.
func numbersWith(n int64, step int64) []int64 {
	var list []int64
	for x := int64(0); x < n-1; x += step {
		list = append(list, x)
	}
	return append(list, n-1)
}

// stepFor makes what is looked at in great graphs less.
func stepFor(g impl.Graph) int64 {
	return 1 + g.Size/5
}

// eachDot calls with all edges and vertices of small graphs, and with some of great ones.
func eachDot(g impl.Graph, h impl.Graph, call func(e int64, f int64, a int64, b int64)) {
	for _, e := range numbersWith(int64(len(g.Edges)), stepFor(g)) {
		for _, f := range numbersWith(int64(len(g.Edges)), stepFor(g)) {
			for _, a := range numbersWith(h.Size, 1+h.Size/8) {
				for b := range h.Size {
					call(e, f, a, b)
				}
			}
		}
	}
}

func TestDotProductsInAllWays(t *testing.T) {
	codes := map[int64]int{}
	sizes := map[int64]int{}
	for _, g := range graphsForProducts(t) {
		for _, h := range graphsForProducts(t) {
			eachDot(g, h, func(e int64, f int64, a int64, b int64) {
				made, code := impl.DotProduct(g, e, f, h, a, b)
				want, wanted := refDot(g, e, f, h, a, b)
				if code != wanted || !sameGraph(made, want) {
					t.Fatalf("DotProduct(%v, %d, %d, %v, %d, %d) = %v, %d, not %v, %d", g, e, f, h, a, b, made, code, want, wanted)
				}
				codes[code]++
				sizes[made.Size]++
			})
		}
	}
	if codes[impl.ErrNone] == 0 || codes[impl.ErrState] == 0 || codes[impl.ErrLimit] == 0 || sizes[18] == 0 || sizes[20] == 0 || sizes[22] > 0 {
		t.Error("dot products by codes and Sizes:", codes, sizes)
	}
}

// Promise 6: dot products of graphs without colourings have none.
func TestPromise6DotProductsWithoutColourings(t *testing.T) {
	made := map[int64]int{}
	for _, g := range withoutColourings(t) {
		for _, h := range withoutColourings(t) {
			eachDot(g, h, func(e int64, f int64, a int64, b int64) {
				product, code := impl.DotProduct(g, e, f, h, a, b)
				if code != impl.ErrNone {
					return
				}
				made[product.Size]++
				has, code := impl.HasColouring(product)
				if has || code != impl.ErrNone || !impl.IsGraph(product) || isColourable(product) {
					t.Fatalf("DotProduct(%v, %d, %d, %v, %d, %d) = %v has a colouring: %v, %d", g, e, f, h, a, b, product, has, code)
				}
			})
		}
	}
	if made[10] == 0 || made[18] == 0 || made[20] == 0 {
		t.Error("numbers of products by their Sizes:", made)
	}
}

// So much is not so if one of both graphs has colourings.
func TestDotProductsWithColourings(t *testing.T) {
	for _, pair := range [][2]string{{"k4", "petersen"}, {"petersen", "k4"}, {"cube", "prism"}} {
		g, h := named(t, pair[0]), named(t, pair[1])
		found := 0
		eachDot(g, h, func(e int64, f int64, a int64, b int64) {
			product, code := impl.DotProduct(g, e, f, h, a, b)
			if code == impl.ErrNone && isColourable(product) {
				found++
			}
		})
		if found == 0 {
			t.Errorf("no dot product of %s and %s has a colouring", pair[0], pair[1])
		}
	}
}

// Promise 13, and the guarantee: star products have a sixth of the colourings that the numbers of those of both
// graphs have as their product, and so some exactly if both have.
func TestPromise13StarProducts(t *testing.T) {
	codes := map[int64]int{}
	for _, g := range graphsForProducts(t) {
		for _, h := range graphsForProducts(t) {
			for _, v := range numbersWith(g.Size, stepFor(g)) {
				for w := range h.Size {
					made, code := impl.StarProduct(g, v, h, w)
					want, wanted := refStar(g, v, h, w)
					if code != wanted || !sameGraph(made, want) {
						t.Fatalf("StarProduct(%v, %d, %v, %d) = %v, %d, not %v, %d", g, v, h, w, made, code, want, wanted)
					}
					codes[code]++
					if code == impl.ErrNone {
						checkStar(t, g, h, made)
					}
				}
			}
		}
	}
	if codes[impl.ErrNone] == 0 || codes[impl.ErrState] == 0 || codes[impl.ErrLimit] == 0 {
		t.Error("star products by codes:", codes)
	}
}

func checkStar(t *testing.T, g impl.Graph, h impl.Graph, made impl.Graph) {
	t.Helper()
	first, a := impl.CountColourings(g)
	second, b := impl.CountColourings(h)
	count, c := impl.CountColourings(made)
	if 6*count != first*second || a != impl.ErrNone || b != impl.ErrNone || c != impl.ErrNone {
		t.Fatalf("%v and %v have %d and %d colourings, their star product %v has %d", g, h, first, second, made, count)
	}
	has, code := impl.HasColouring(made)
	if has != (first > 0 && second > 0) || code != impl.ErrNone {
		t.Fatalf("HasColouring(%v) = %v, %d", made, has, code)
	}
}

// Promises 6 and 13: opened vertices are shrunk again, and opened graphs have as many colourings.
func TestPromise6And13OpenedVertices(t *testing.T) {
	for _, g := range graphsWithFlows(t) {
		before, _ := impl.CountColourings(g)
		for v := range g.Size {
			opened, code := impl.OpenVertex(g, v)
			want, wanted := refOpen(g, v)
			checkMade(t, "OpenVertex", opened, code, want, wanted)
			if code != impl.ErrNone {
				continue
			}
			n := g.Size
			for _, p := range [][3]int64{{v, n, n + 1}, {n + 1, v, n}, {n, n + 1, v}, {n + 1, n, v}} {
				shrunk, code := impl.ShrinkTriangle(opened, p[0], p[1], p[2])
				checkMade(t, "ShrinkTriangle", shrunk, code, g, impl.ErrNone)
			}
			if after, code := impl.CountColourings(opened); after != before || code != impl.ErrNone {
				t.Fatalf("%v has %d colourings, %v has %d", g, before, opened, after)
			}
		}
	}
}

func TestShrunkTrianglesInAllWays(t *testing.T) {
	codes := map[int64]int{}
	for _, g := range graphsForProducts(t) {
		for a := range g.Size {
			for b := range g.Size {
				for c := range g.Size {
					made, code := impl.ShrinkTriangle(g, a, b, c)
					want, wanted := refShrink(g, a, b, c)
					checkMade(t, "ShrinkTriangle", made, code, want, wanted)
					codes[code]++
				}
			}
		}
	}
	if codes[impl.ErrNone] == 0 || codes[impl.ErrState] == 0 || len(codes) != 2 {
		t.Error("shrunk triangles by codes:", codes)
	}
}

// Promise 6: bridged edges are cut again.
func TestPromise6BridgedEdges(t *testing.T) {
	for _, g := range graphsWithFlows(t) {
		for _, e := range numbersWith(int64(len(g.Edges)), stepFor(g)) {
			for f := range int64(len(g.Edges)) {
				bridged, code := impl.BridgeEdges(g, e, f)
				want, wanted := refBridge(g, e, f)
				checkMade(t, "BridgeEdges", bridged, code, want, wanted)
				if code != impl.ErrNone {
					continue
				}
				// The edge that joins the two new vertices is the last one.
				last := int64(len(bridged.Edges)) - 1
				if bridged.Edges[last] != (impl.Edge{g.Size, g.Size + 1}) {
					t.Fatalf("BridgeEdges(%v, %d, %d) = %v", g, e, f, bridged)
				}
				cut, code := impl.CutEdge(bridged, last)
				checkMade(t, "CutEdge", cut, code, g, impl.ErrNone)
			}
		}
	}
}

func TestCutEdgesInAllWays(t *testing.T) {
	codes := map[int64]int{}
	for _, g := range graphsWithFlows(t) {
		for e := range int64(len(g.Edges)) {
			made, code := impl.CutEdge(g, e)
			want, wanted := refCutOf(g, e)
			checkMade(t, "CutEdge", made, code, want, wanted)
			codes[code]++
		}
	}
	if codes[impl.ErrNone] == 0 || codes[impl.ErrState] == 0 || len(codes) != 2 {
		t.Error("cut edges by codes:", codes)
	}
}
