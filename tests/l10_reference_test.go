package tests

import (
	"slices"
	"testing"

	"loop.example/g01329/impl"
)

// What chapter 10 tells, found in other ways than the program's and without it: renumberings are looked for by the distances of
// vertices, or among all lists, and orbits are put together by joining a vertex with its images.

// refImages returns the images of the edges of a graph, as they stand in a graph.
func refImages(g impl.Graph, list []int64) []impl.Edge {
	edges := make([]impl.Edge, len(g.Edges))
	for i, e := range g.Edges {
		edges[i] = impl.Edge{list[e[0]], list[e[1]]}
	}
	return sorted(edges)
}

// refLeads reports whether a renumbering leads g to h.
func refLeads(g impl.Graph, h impl.Graph, list []int64) bool {
	return g.Size == h.Size && slices.Equal(refImages(g, list), h.Edges)
}

// refIsRenumbering reports whether a list has each of the numbers 0 to n - 1 once.
func refIsRenumbering(list []int64, n int64) bool {
	ordered := slices.Clone(list)
	slices.Sort(ordered)
	return slices.Equal(ordered, numbersUpTo(int(n)))
}

// refRenumberings returns all renumberings that lead g to h, in lexicographic order: those that keep distances, and then edges.
func refRenumberings(g impl.Graph, h impl.Graph) [][]int64 {
	if g.Size != h.Size {
		return nil
	}
	before, after := nearest(g), nearest(h)
	var found [][]int64
	var list []int64
	var look func()
	look = func() {
		v := len(list)
		if v == len(before) {
			if refLeads(g, h, list) {
				found = append(found, slices.Clone(list))
			}
			return
		}
		for w := range after {
			if slices.Contains(list, int64(w)) {
				continue
			}
			keeps := true
			for u, x := range list {
				keeps = keeps && before[u][v] == after[x][w]
			}
			if keeps {
				list = append(list, int64(w))
				look()
				list = list[:v]
			}
		}
	}
	look()
	return found
}

// eachRenumbering calls for each list of the numbers 0 to n - 1, in lexicographic order.
func eachRenumbering(n int64, call func(list []int64)) {
	list := numbersUpTo(int(n))
	for {
		call(list)
		i := len(list) - 2
		for i >= 0 && list[i] > list[i+1] {
			i--
		}
		if i < 0 {
			return
		}
		j := len(list) - 1
		for list[j] < list[i] {
			j--
		}
		list[i], list[j] = list[j], list[i]
		slices.Reverse(list[i+1:])
	}
}

// refOrbits returns the orbits of n things, if each list tells the image of each thing, or of one that is equal to it.
func refOrbits(n int, images [][]int64) [][]int64 {
	groups := make(refGroups, n)
	for i := range groups {
		groups[i] = i
	}
	for _, list := range images {
		for i, image := range list {
			groups[groups.of(i)] = groups.of(int(image))
		}
	}
	var orbits [][]int64
	place := map[int]int{}
	for i := range n {
		at, met := place[groups.of(i)]
		if !met {
			at = len(orbits)
			place[groups.of(i)] = at
			orbits = append(orbits, nil)
		}
		orbits[at] = append(orbits[at], int64(i))
	}
	return orbits
}

// refEdgeImages returns for each renumbering the number of the first edge that is equal to the image of each edge, and the lists that
// lead each edge to the first one that is equal to it.
func refEdgeImages(g impl.Graph, renumberings [][]int64) [][]int64 {
	var images [][]int64
	for _, list := range append(slices.Clone(renumberings), numbersUpTo(int(g.Size))) {
		var image []int64
		for _, e := range g.Edges {
			a, b := list[e[0]], list[e[1]]
			image = append(image, int64(slices.Index(g.Edges, impl.Edge{min(a, b), max(a, b)})))
		}
		images = append(images, image)
	}
	return images
}

// refCycleType returns the lengths of the cycles of a renumbering, descending: the length of the cycle of a vertex is the least number
// of times after which it is there again, and as many vertices have the same length as the cycles of that length have together.
func refCycleType(list []int64) []int64 {
	with := make([]int, len(list)+1)
	for v := range list {
		at, times := list[v], 1
		for at != int64(v) {
			at = list[at]
			times++
		}
		with[times]++
	}
	var lengths []int64
	for length := len(list); length > 0; length-- {
		lengths = append(lengths, slices.Repeat([]int64{int64(length)}, with[length]/length)...)
	}
	return lengths
}

// composed returns the renumbering that is p, and then q.
func composed(p []int64, q []int64) []int64 {
	list := make([]int64, len(p))
	for v, w := range p {
		list[v] = q[w]
	}
	return list
}

// inverse returns the renumbering that leads back.
func inverse(p []int64) []int64 {
	list := make([]int64, len(p))
	for v, w := range p {
		list[w] = int64(v)
	}
	return list
}

// eachLabelled calls for each graph of n vertices, connected or not, once.
func eachLabelled(n int64, call func(g impl.Graph)) {
	var edges []impl.Edge
	left := slices.Repeat([]int{3}, int(n))
	var put func(a int64, b int64)
	put = func(a int64, b int64) {
		for a < n && left[a] == 0 {
			a++
			b = a + 1
		}
		if a == n {
			call(impl.Graph{Size: n, Edges: slices.Clone(edges)})
			return
		}
		for ; b < n; b++ {
			if left[b] > 0 {
				left[a]--
				left[b]--
				edges = append(edges, impl.Edge{a, b})
				put(a, b)
				edges = edges[:len(edges)-1]
				left[a]++
				left[b]++
			}
		}
	}
	put(0, 1)
}

// refIsConnected reports whether there are ways from the first vertex to all others.
func refIsConnected(g impl.Graph) bool {
	return slices.Max(nearest(g)[0]) < 99
}

// connectedGraphs returns connected graphs of all kinds, with many automorphisms and with one.
func connectedGraphs(t *testing.T) []impl.Graph {
	t.Helper()
	graphs := append(graphsWithFlows(t), turned(t, named(t, "flower5")), spokes(8, 3), spokes(10, 3), spokes(7, 2))
	for _, text := range []string{heawood, dodecahedron, joinedPetersens, flower3, lessThanOddness, pappus, frucht, stiff, hung256, hung384, hung512, hung768} {
		graphs = append(graphs, parsed(t, text), shuffled(t, parsed(t, text)))
	}
	return slices.DeleteFunc(graphs, func(g impl.Graph) bool { return !refIsConnected(g) })
}
