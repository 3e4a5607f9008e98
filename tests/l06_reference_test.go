package tests

import (
	"slices"

	"loop.example/g01329/impl"
)

// What chapter 6 says, written once more, in another way than the program's and without it: vertices keep the
// places where they stood, and are numbered when all is done.

// A place is a vertex v of the first graph (0), of the second one (1), or a new one (2).
type place struct{ of, v int64 }

type refWork struct {
	places []place
	joined [][2]place
}

func refStart(graphs ...impl.Graph) *refWork {
	work := &refWork{}
	for of, g := range graphs {
		for v := range g.Size {
			work.places = append(work.places, place{int64(of), v})
		}
		for _, e := range g.Edges {
			work.join(place{int64(of), e[0]}, place{int64(of), e[1]})
		}
	}
	return work
}

func (work *refWork) join(a place, b place) {
	work.joined = append(work.joined, [2]place{a, b})
}

// takeOut takes out a vertex with all its edges.
func (work *refWork) takeOut(p place) {
	work.places = slices.DeleteFunc(work.places, func(q place) bool { return q == p })
	work.joined = slices.DeleteFunc(work.joined, func(pair [2]place) bool { return pair[0] == p || pair[1] == p })
}

// takeEdge takes out one edge, whichever way it was joined.
func (work *refWork) takeEdge(a place, b place) {
	i := slices.IndexFunc(work.joined, func(pair [2]place) bool { return pair == [2]place{a, b} || pair == [2]place{b, a} })
	work.joined = slices.Delete(work.joined, i, i+1)
}

func (work *refWork) graph() impl.Graph {
	g := impl.Graph{Size: int64(len(work.places))}
	for _, pair := range work.joined {
		a, b := slices.Index(work.places, pair[0]), slices.Index(work.places, pair[1])
		g.Edges = append(g.Edges, impl.Edge{int64(a), int64(b)})
	}
	g.Edges = sorted(g.Edges)
	return g
}

// refEnds returns the other ends of the edges at v, ascending, without those that are left out.
func refEnds(g impl.Graph, v int64, out ...int64) []int64 {
	var ends []int64
	for _, e := range g.Edges {
		if w := e[0] + e[1] - v; (e[0] == v || e[1] == v) && !slices.Contains(out, w) {
			ends = append(ends, w)
		}
	}
	slices.Sort(ends)
	return ends
}

// refBetween returns how many edges join two vertices.
func refBetween(g impl.Graph, a int64, b int64) int {
	count := 0
	for _, e := range g.Edges {
		if e == (impl.Edge{a, b}) || e == (impl.Edge{b, a}) {
			count++
		}
	}
	return count
}

func refDot(g impl.Graph, e int64, f int64, h impl.Graph, a int64, b int64) (impl.Graph, int64) {
	uv, xy := g.Edges[e], g.Edges[f]
	if haveCommonVertex(uv, xy) || refBetween(h, a, b) != 1 {
		return impl.Graph{}, impl.ErrState
	}
	if g.Size+h.Size > 22 {
		return impl.Graph{}, impl.ErrLimit
	}
	work := refStart(g, h)
	work.takeEdge(place{0, uv[0]}, place{0, uv[1]})
	work.takeEdge(place{0, xy[0]}, place{0, xy[1]})
	work.takeOut(place{1, a})
	work.takeOut(place{1, b})
	rs, tw := refEnds(h, a, b), refEnds(h, b, a)
	for i := range 2 {
		work.join(place{0, uv[i]}, place{1, rs[i]})
		work.join(place{0, xy[i]}, place{1, tw[i]})
	}
	return work.graph(), impl.ErrNone
}

func refStar(g impl.Graph, v int64, h impl.Graph, w int64) (impl.Graph, int64) {
	if g.Size == 2 || h.Size == 2 {
		return impl.Graph{}, impl.ErrState
	}
	if g.Size+h.Size > 22 {
		return impl.Graph{}, impl.ErrLimit
	}
	work := refStart(g, h)
	work.takeOut(place{0, v})
	work.takeOut(place{1, w})
	for i, end := range refEnds(g, v) {
		work.join(place{0, end}, place{1, refEnds(h, w)[i]})
	}
	return work.graph(), impl.ErrNone
}

func refOpen(g impl.Graph, v int64) (impl.Graph, int64) {
	if g.Size > 18 {
		return impl.Graph{}, impl.ErrLimit
	}
	work := refStart(g)
	corners := []place{{0, v}, {2, 0}, {2, 1}}
	for i, end := range refEnds(g, v) {
		work.takeEdge(corners[0], place{0, end})
		work.join(corners[i], place{0, end})
		work.join(corners[i], corners[(i+1)%3])
	}
	work.places = append(work.places, corners[1:]...)
	return work.graph(), impl.ErrNone
}

func refShrink(g impl.Graph, a int64, b int64, c int64) (impl.Graph, int64) {
	if refBetween(g, a, b) != 1 || refBetween(g, a, c) != 1 || refBetween(g, b, c) != 1 {
		return impl.Graph{}, impl.ErrState
	}
	corners := []int64{a, b, c}
	slices.Sort(corners)
	work := refStart(g)
	for _, v := range corners[1:] {
		work.takeOut(place{0, v})
		for _, end := range refEnds(g, v, corners...) {
			work.join(place{0, corners[0]}, place{0, end})
		}
	}
	return work.graph(), impl.ErrNone
}

func refBridge(g impl.Graph, e int64, f int64) (impl.Graph, int64) {
	if e == f {
		return impl.Graph{}, impl.ErrState
	}
	if g.Size > 18 {
		return impl.Graph{}, impl.ErrLimit
	}
	work := refStart(g)
	for i, edge := range []impl.Edge{g.Edges[e], g.Edges[f]} {
		middle := place{2, int64(i)}
		work.places = append(work.places, middle)
		work.takeEdge(place{0, edge[0]}, place{0, edge[1]})
		work.join(place{0, edge[0]}, middle)
		work.join(place{0, edge[1]}, middle)
	}
	work.join(place{2, 0}, place{2, 1})
	return work.graph(), impl.ErrNone
}

func refCutOf(g impl.Graph, e int64) (impl.Graph, int64) {
	u, v := g.Edges[e][0], g.Edges[e][1]
	if refBetween(g, u, v) != 1 {
		return impl.Graph{}, impl.ErrState
	}
	work := refStart(g)
	for _, ends := range [][]int64{refEnds(g, u, v), refEnds(g, v, u)} {
		if ends[0] == ends[1] {
			return impl.Graph{}, impl.ErrState
		}
		work.join(place{0, ends[0]}, place{0, ends[1]})
	}
	work.takeOut(place{0, u})
	work.takeOut(place{0, v})
	return work.graph(), impl.ErrNone
}

// refIsSnark looks for short cycles, counts colourings by their edges of one colour, and looks at all sets of vertices.
func refIsSnark(g impl.Graph) bool {
	if len(refSides(g, nil)) != 1 || hasCycle(g, 2) || hasCycle(g, 3) || hasCycle(g, 4) {
		return false
	}
	return refCount(g) == 0 && refCutsOf(g).cyclic >= 4
}
