package impl

import (
	"iter"
	"math/bits"
	"slices"
	"strconv"
	"strings"
)

const (
	ErrNone = iota
	ErrInvalid
	ErrRange
	ErrLimit
	ErrNotFound
	ErrState
	ErrSyntax
)
const MaxVertices = 20

type Edge [2]int64

type Graph struct {
	Size  int64
	Edges []Edge
}

// IsGraph reports whether g is a graph.
func IsGraph(g Graph) bool {
	made, code := GraphOf(g.Size, g.Edges)
	return code == ErrNone && slices.Equal(made.Edges, g.Edges)
}

// GraphOf returns the graph of the Size n with 3 n / 2 edges, in any order and with any vertex of
// each first, and ErrNone. Errors: ErrRange if n is not even and in 2..MaxVertices, there are not
// so many edges, or one has not two different vertices in 0..n - 1; ErrState if a vertex is not on
// three of them.
func GraphOf(n int64, edges []Edge) (Graph, int64) {
	if !areEdgesFor(n, edges) {
		return Graph{}, ErrRange
	}
	if !areThreeAtEach(n, edges) {
		return Graph{}, ErrState
	}
	return Graph{Size: n, Edges: inOrder(edges)}, ErrNone
}

// EdgesAt returns the three edges at a vertex v, ascending, and ErrNone.
func EdgesAt(g Graph, v int64) ([]int64, int64) {
	if !IsGraph(g) {
		return nil, ErrInvalid
	}
	if !isBelow(v, g.Size) {
		return nil, ErrRange
	}
	var list []int64
	for e := range edgesAround(g, v) {
		list = append(list, e)
	}
	return list, ErrNone
}

// OtherEnd returns the vertex of the edge e other than v, and ErrNone. Errors: ErrState if v is not
// on e.
func OtherEnd(g Graph, e int64, v int64) (int64, int64) {
	if !IsGraph(g) {
		return 0, ErrInvalid
	}
	if !isBelow(e, int64(len(g.Edges))) || !isBelow(v, g.Size) {
		return 0, ErrRange
	}
	w, on := across(g.Edges[e], v)
	if !on {
		return 0, ErrState
	}
	return w, ErrNone
}

// PartsOf returns the parts, each ascending, in the order of their least vertices, and ErrNone.
func PartsOf(g Graph) ([][]int64, int64) {
	if !IsGraph(g) {
		return nil, ErrInvalid
	}
	return partsOf(g), ErrNone
}

// IsConnected reports whether g is connected, and returns ErrNone.
func IsConnected(g Graph) (bool, int64) {
	if !IsGraph(g) {
		return false, ErrInvalid
	}
	return len(partsOf(g)) == 1, ErrNone
}

// DistanceOf returns the distance of two vertices, and ErrNone. Errors: ErrNotFound if there is no
// way.
func DistanceOf(g Graph, a int64, b int64) (int64, int64) {
	if !IsGraph(g) {
		return 0, ErrInvalid
	}
	if !isBelow(a, g.Size) || !isBelow(b, g.Size) {
		return 0, ErrRange
	}
	d := distancesFrom(g, a, noEdge())[b]
	if d == noWay {
		return 0, ErrNotFound
	}
	return d, ErrNone
}

// DiameterOf returns the diameter, and ErrNone. Errors: ErrState if g is not connected.
func DiameterOf(g Graph) (int64, int64) {
	if !IsGraph(g) {
		return 0, ErrInvalid
	}
	greatest := int64(0)
	for a := range g.Size {
		far := distancesFrom(g, a, noEdge())
		if slices.Contains(far, noWay) {
			return 0, ErrState
		}
		greatest = max(greatest, slices.Max(far))
	}
	return greatest, ErrNone
}

// GirthOf returns the girth, and ErrNone. (There always is a cycle.)
func GirthOf(g Graph) (int64, int64) {
	if !IsGraph(g) {
		return 0, ErrInvalid
	}
	if hasEqualEdges(g.Edges) {
		return 2, ErrNone
	}
	// The least cycle through an edge is that edge and a least way around it. Edges that are all
	// different are told by their vertices alone.
	least := g.Size
	for _, e := range g.Edges {
		around := distancesFrom(g, e[0], e)[e[1]]
		if around != noWay {
			least = min(least, around+1)
		}
	}
	return least, ErrNone
}

// IsBipartite reports whether g is bipartite, and returns ErrNone.
func IsBipartite(g Graph) (bool, int64) {
	if !IsGraph(g) {
		return false, ErrInvalid
	}
	for _, part := range partsOf(g) {
		if hasEdgeAtOneDistance(g, part[0]) {
			return false, ErrNone
		}
	}
	return true, ErrNone
}

// RenumberGraph returns g renumbered by p, and ErrNone.
func RenumberGraph(g Graph, p []int64) (Graph, int64) {
	if !IsGraph(g) {
		return Graph{}, ErrInvalid
	}
	if !hasEachOnce(p, g.Size) {
		return Graph{}, ErrRange
	}
	edges := make([]Edge, len(g.Edges))
	for i, e := range g.Edges {
		edges[i] = Edge{p[e[0]], p[e[1]]}
	}
	return Graph{Size: g.Size, Edges: inOrder(edges)}, ErrNone
}

// PutBeside returns the graph that has the vertices and edges of g, and those of h with the Size of
// g added to each vertex, and ErrNone. Errors: ErrLimit if there would be more than MaxVertices
// vertices.
func PutBeside(g Graph, h Graph) (Graph, int64) {
	if !IsGraph(g) || !IsGraph(h) {
		return Graph{}, ErrInvalid
	}
	if g.Size+h.Size > MaxVertices {
		return Graph{}, ErrLimit
	}
	edges := slices.Clone(g.Edges)
	for _, e := range h.Edges {
		edges = append(edges, Edge{e[0] + g.Size, e[1] + g.Size})
	}
	return Graph{Size: g.Size + h.Size, Edges: edges}, ErrNone
}

// NamedGraph returns the graph with a name, and ErrNone. Errors: ErrNotFound if there is none.
func NamedGraph(name string) (Graph, int64) {
	switch name {
	case "theta":
		return GraphOf(2, []Edge{{0, 1}, {0, 1}, {0, 1}})
	case "k4":
		return GraphOf(4, pairsWithin(0, 3))
	case "k33":
		return GraphOf(6, pairsBetween(0, 2, 3, 5))
	case "prism":
		return GraphOf(6, slices.Concat(cycleThrough(0, 2), cycleThrough(3, 5), rungs(3, 3)))
	case "cube":
		return GraphOf(8, cubeEdges())
	case "petersen":
		return GraphOf(10, petersenEdges())
	case "tietze":
		return GraphOf(12, tietzeEdges())
	case "flower5":
		return GraphOf(20, flowerEdges(5))
	case "bridge":
		return GraphOf(10, bridgeEdges())
	}
	return Graph{}, ErrNotFound
}

// GraphText returns the text of g, and ErrNone.
func GraphText(g Graph) (string, int64) {
	if !IsGraph(g) {
		return "", ErrInvalid
	}
	text := strconv.AppendInt(nil, g.Size, 10)
	for i, e := range g.Edges {
		if i == 0 {
			text = append(text, ':')
		} else {
			text = append(text, ',')
		}
		text = strconv.AppendInt(text, e[0], 10)
		text = append(text, '-')
		text = strconv.AppendInt(text, e[1], 10)
	}
	return string(text), ErrNone
}

// ParseGraph returns the graph with a text, and ErrNone. Errors: ErrSyntax if there is none. (No
// other errors are returned.)
func ParseGraph(text string) (Graph, int64) {
	g, ok := readGraph(text)
	if !ok {
		return Graph{}, ErrSyntax
	}
	// Signs, superfluous zeros and edges out of order are read too, but are not written again.
	written, code := GraphText(g)
	if code != ErrNone || written != text {
		return Graph{}, ErrSyntax
	}
	return g, ErrNone
}

// noWay stands in a list of distances for a vertex to which there is no way.
const noWay int64 = -1

// noEdge returns what is left out where no edge is: it is not in any graph.
func noEdge() Edge {
	return Edge{}
}

// isBelow reports whether x is in 0..n - 1.
func isBelow(x int64, n int64) bool {
	return 0 <= x && x < n
}

// areEdgesFor reports whether n is the Size of a graph, and whether there are as many edges as it
// has, each with two different vertices.
func areEdgesFor(n int64, edges []Edge) bool {
	if n < 2 || n > MaxVertices || n%2 != 0 || int64(len(edges)) != 3*n/2 {
		return false
	}
	for _, e := range edges {
		if !isBelow(e[0], n) || !isBelow(e[1], n) || e[0] == e[1] {
			return false
		}
	}
	return true
}

// areThreeAtEach reports whether each of n vertices is on three of the edges.
func areThreeAtEach(n int64, edges []Edge) bool {
	counts := make([]int64, n)
	for _, e := range edges {
		counts[e[0]]++
		counts[e[1]]++
	}
	for _, count := range counts {
		if count != 3 {
			return false
		}
	}
	return true
}

// inOrder returns the edges as they stand in a graph.
func inOrder(edges []Edge) []Edge {
	ordered := make([]Edge, len(edges))
	for i, e := range edges {
		ordered[i] = Edge{min(e[0], e[1]), max(e[0], e[1])}
	}
	slices.SortFunc(ordered, func(a Edge, b Edge) int { return slices.Compare(a[:], b[:]) })
	return ordered
}

// hasEqualEdges reports whether two edges join the same vertices.
func hasEqualEdges(edges []Edge) bool {
	met := map[Edge]bool{}
	for _, e := range edges {
		if met[e] {
			return true
		}
		met[e] = true
	}
	return false
}

// hasEachOnce reports whether a list has each of the numbers 0 to n - 1 once.
func hasEachOnce(list []int64, n int64) bool {
	if int64(len(list)) != n {
		return false
	}
	met := make([]bool, n)
	for _, x := range list {
		if !isBelow(x, n) || met[x] {
			return false
		}
		met[x] = true
	}
	return true
}

// across returns the vertex of an edge other than v, and whether v is on it.
func across(e Edge, v int64) (int64, bool) {
	switch v {
	case e[0]:
		return e[1], true
	case e[1]:
		return e[0], true
	}
	return 0, false
}

// edgesAround ranges over the edges at a vertex, ascending, with their other ends.
func edgesAround(g Graph, v int64) iter.Seq2[int64, int64] {
	return func(yield func(int64, int64) bool) {
		for i, e := range g.Edges {
			w, on := across(e, v)
			if on && !yield(int64(i), w) {
				return
			}
		}
	}
}

// distancesFrom returns the distances of all vertices from a, or noWay, if all edges that are equal
// to without are left out.
func distancesFrom(g Graph, a int64, without Edge) []int64 {
	far := slices.Repeat([]int64{noWay}, int(g.Size))
	far[a] = 0
	for queue := []int64{a}; len(queue) > 0; queue = queue[1:] {
		v := queue[0]
		for e, w := range edgesAround(g, v) {
			if far[w] == noWay && g.Edges[e] != without {
				far[w] = far[v] + 1
				queue = append(queue, w)
			}
		}
	}
	return far
}

// partsOf returns the parts of a graph, as PartsOf does.
func partsOf(g Graph) [][]int64 {
	var parts [][]int64
	placed := make([]bool, g.Size)
	for v := range g.Size {
		if placed[v] {
			continue
		}
		var part []int64
		for w, d := range distancesFrom(g, v, noEdge()) {
			if d != noWay {
				placed[w] = true
				part = append(part, int64(w))
			}
		}
		parts = append(parts, part)
	}
	return parts
}

// hasEdgeAtOneDistance reports whether an edge joins two vertices with the same distance from a.
// Distances of joined vertices differ by at most 1, so that such an edge is just what keeps the part
// of a from having two kinds of vertices.
func hasEdgeAtOneDistance(g Graph, a int64) bool {
	far := distancesFrom(g, a, noEdge())
	for _, e := range g.Edges {
		if far[e[0]] != noWay && far[e[0]] == far[e[1]] {
			return true
		}
	}
	return false
}

// cycleThrough returns the edges of the cycle of the vertices first to last.
func cycleThrough(first int64, last int64) []Edge {
	edges := []Edge{{last, first}}
	for v := first; v < last; v++ {
		edges = append(edges, Edge{v, v + 1})
	}
	return edges
}

// rungs returns the edges that join each of the vertices 0 to n - 1 with the one by step behind it.
func rungs(n int64, step int64) []Edge {
	var edges []Edge
	for v := range n {
		edges = append(edges, Edge{v, v + step})
	}
	return edges
}

// pairsWithin returns all pairs of the vertices first to last.
func pairsWithin(first int64, last int64) []Edge {
	var edges []Edge
	for a := first; a < last; a++ {
		for b := a + 1; b <= last; b++ {
			edges = append(edges, Edge{a, b})
		}
	}
	return edges
}

// pairsBetween returns all pairs of one of the vertices a to b and one of the vertices c to d.
func pairsBetween(a int64, b int64, c int64, d int64) []Edge {
	var edges []Edge
	for v := a; v <= b; v++ {
		for w := c; w <= d; w++ {
			edges = append(edges, Edge{v, w})
		}
	}
	return edges
}

// cubeEdges returns the edges of the graph with the name cube.
func cubeEdges() []Edge {
	return slices.DeleteFunc(pairsWithin(0, 7), func(e Edge) bool {
		return bits.OnesCount64(uint64(e[0]^e[1])) != 1
	})
}

// petersenEdges returns the edges of the graph with the name petersen.
func petersenEdges() []Edge {
	edges := slices.Concat(cycleThrough(0, 4), rungs(5, 5))
	for i := range int64(5) {
		edges = append(edges, Edge{i + 5, (i+2)%5 + 5})
	}
	return edges
}

// tietzeEdges returns the edges of the graph with the name tietze.
func tietzeEdges() []Edge {
	edges := slices.DeleteFunc(petersenEdges(), func(e Edge) bool {
		_, on := across(e, 0)
		return on
	})
	return append(edges, Edge{0, 10}, Edge{0, 11}, Edge{10, 11}, Edge{0, 1}, Edge{10, 4}, Edge{11, 5})
}

// flowerEdges returns the edges of the flower graph of k, which has 4 k vertices.
func flowerEdges(k int64) []Edge {
	return slices.Concat(rungs(k, k), rungs(k, 2*k), rungs(k, 3*k),
		cycleThrough(k, 2*k-1), cycleThrough(2*k, 4*k-1))
}

// bridgeEdges returns the edges of the graph with the name bridge.
func bridgeEdges() []Edge {
	edges := []Edge{{0, 4}, {1, 4}, {5, 9}, {6, 9}, {4, 9}}
	for _, e := range slices.Concat(pairsWithin(0, 3), pairsWithin(5, 8)) {
		if e != (Edge{0, 1}) && e != (Edge{5, 6}) {
			edges = append(edges, e)
		}
	}
	return edges
}

// readGraph reads the numbers of a text in the form of a graph's, without a look at what they are.
func readGraph(text string) (Graph, bool) {
	size, pairs, _ := strings.Cut(text, ":")
	n, err := strconv.ParseInt(size, 10, 64)
	if err != nil {
		return Graph{}, false
	}
	g := Graph{Size: n}
	for pair := range strings.SplitSeq(pairs, ",") {
		e, ok := readEdge(pair)
		if !ok {
			return Graph{}, false
		}
		g.Edges = append(g.Edges, e)
	}
	return g, true
}

// readEdge reads two numbers with a minus sign between them.
func readEdge(pair string) (Edge, bool) {
	first, second, _ := strings.Cut(pair, "-")
	a, err := strconv.ParseInt(first, 10, 64)
	if err != nil {
		return Edge{}, false
	}
	b, err := strconv.ParseInt(second, 10, 64)
	if err != nil {
		return Edge{}, false
	}
	return Edge{a, b}, true
}
