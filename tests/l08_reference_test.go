package tests

import (
	"math/bits"
	"slices"

	"loop.example/g01329/impl"
)

// What chapter 8 says, written once more, in other ways than the program's and without it.

// refAreClose looks for an end of one edge that is an end of the other one, or that an edge joins with one.
func refAreClose(g impl.Graph, e impl.Edge, f impl.Edge) bool {
	for _, a := range e {
		for _, b := range f {
			if a == b || refBetween(g, a, b) > 0 {
				return true
			}
		}
	}
	return false
}

// refWeak returns the first weak set. It tries to leave out at most r edges, for r from 0 on, and to leave out an edge before
// it gives it a colour, so that the first set that it finds is the least one.
func refWeak(g impl.Graph) []int64 {
	taken := make([]int, g.Size)
	var out []int64
	var look func(i int, r int) bool
	look = func(i int, r int) bool {
		if i == len(g.Edges) {
			return true
		}
		if r > 0 {
			out = append(out, int64(i))
			if look(i+1, r-1) {
				return true
			}
			out = out[:len(out)-1]
		}
		a, b := g.Edges[i][0], g.Edges[i][1]
		for _, colour := range []int{1, 2, 4} {
			if (taken[a]|taken[b])&colour != 0 {
				continue
			}
			taken[a] |= colour
			taken[b] |= colour
			if look(i+1, r) {
				return true
			}
			taken[a] &^= colour
			taken[b] &^= colour
		}
		return false
	}
	for r := 0; !look(0, r); r++ {
	}
	return out
}

// refAround returns the numbers of the edges at a vertex, ascending.
func refAround(g impl.Graph, v int64, list []int64) []int64 {
	var around []int64
	for i, e := range g.Edges {
		if e[0] == v || e[1] == v {
			around = append(around, list[i])
		}
	}
	slices.Sort(around)
	return around
}

// refInRange reports whether all numbers are in 0..k - 1.
func refInRange(k int64, list []int64) bool {
	return slices.Min(list) >= 0 && slices.Max(list) < k
}

// refIsCircular goes around the circle at each vertex, from each number to the next one.
func refIsCircular(g impl.Graph, k int64, d int64, list []int64) bool {
	if !refInRange(k, list) {
		return false
	}
	for v := range g.Size {
		around := refAround(g, v, list)
		if around[1]-around[0] < d || around[2]-around[1] < d || around[0]+k-around[2] < d {
			return false
		}
	}
	return true
}

// refCircular keeps for each edge which numbers the edges before it leave, as digits in base 2, and goes back as soon as one has
// none. It returns the least circular colouring of a graph with at most MaxSmall vertices, or nothing.
func refCircular(g impl.Graph, k int64, d int64) []int64 {
	apart := make([]uint16, k)
	for x := range k {
		for y := range k {
			if x-y >= d && x-y <= k-d || y-x >= d && y-x <= k-d {
				apart[x] |= 1 << y
			}
		}
	}
	list := make([]int64, len(g.Edges))
	var look func(i int, left [15]uint16) bool
	look = func(i int, left [15]uint16) bool {
		if i == len(list) {
			return true
		}
	numbers:
		for x := range k {
			if left[i]>>x&1 == 0 {
				continue
			}
			next := left
			for j := i + 1; j < len(list); j++ {
				if haveCommonVertex(g.Edges[i], g.Edges[j]) {
					next[j] &= apart[x]
				}
				if next[j] == 0 {
					continue numbers
				}
			}
			list[i] = x
			if look(i+1, next) {
				return true
			}
		}
		return false
	}
	var all [15]uint16
	for i := range all {
		all[i] = 1<<k - 1
	}
	if !look(0, all) {
		return nil
	}
	return list
}

// refIsStrong looks at the edges with each number.
func refIsStrong(g impl.Graph, k int64, list []int64) bool {
	groups := map[int64][]impl.Edge{}
	for i, e := range g.Edges {
		for _, f := range groups[list[i]] {
			if refAreClose(g, e, f) {
				return false
			}
		}
		groups[list[i]] = append(groups[list[i]], e)
	}
	return refInRange(k, list)
}

// refStrong puts the edges into as few groups as there can be without close edges, and returns the number of the group of each
// edge, and how many there are. It remembers how many groups sets of edges need.
func refStrong(g impl.Graph) ([]int64, int64) {
	far := make([]uint32, len(g.Edges))
	for i, e := range g.Edges {
		for j, f := range g.Edges {
			if !refAreClose(g, e, f) {
				far[i] |= 1 << j
			}
		}
	}
	fewest, chosen := map[uint32]int64{0: 0}, map[uint32]uint32{}
	var need func(set uint32) int64
	need = func(set uint32) int64 {
		if count, known := fewest[set]; known {
			return count
		}
		fewest[set] = int64(len(far)) + 1
		var grow func(group uint32, more uint32)
		grow = func(group uint32, more uint32) {
			if count := 1 + need(set&^group); count < fewest[set] {
				fewest[set], chosen[set] = count, group
			}
			for ; more != 0; more &= more - 1 {
				grow(group|more&-more, more&(more-1)&far[bits.TrailingZeros32(more)])
			}
		}
		grow(set&-set, set&far[bits.TrailingZeros32(set)])
		return fewest[set]
	}
	all := uint32(1)<<len(g.Edges) - 1
	k := need(all)
	list := make([]int64, len(g.Edges))
	for number, set := int64(0), all; set != 0; number++ {
		for _, e := range listOf(chosen[set]) {
			list[e] = number
		}
		set &^= chosen[set]
	}
	return list, k
}

// refIsTotal looks for four numbers at each vertex, those of its edges and its own one, and for two at each edge.
func refIsTotal(g impl.Graph, k int64, list []int64) bool {
	vertices, edges := list[:g.Size], list[g.Size:]
	for v, x := range vertices {
		around := append(refAround(g, int64(v), edges), x)
		slices.Sort(around)
		if len(slices.Compact(around)) != 4 {
			return false
		}
	}
	for _, e := range g.Edges {
		if vertices[e[0]] == vertices[e[1]] {
			return false
		}
	}
	return refInRange(k, list)
}

// refTotal gives numbers to the edges first, and goes back where an edge joins vertices for which just the same number is left.
// Then it gives the vertices theirs. It returns a total colouring for k, or nothing.
func refTotal(g impl.Graph, k int64) []int64 {
	numbers := make([]int64, int(g.Size)+len(g.Edges))
	left := slices.Repeat([]uint32{1<<k - 1}, int(g.Size))
	missing := slices.Repeat([]int{3}, int(g.Size))
	isLost := func(e impl.Edge) bool {
		a, b := e[0], e[1]
		return missing[a]+missing[b] == 0 && left[a] == left[b] && bits.OnesCount32(left[a]) < 2
	}
	var lookVertices func(v int) bool
	lookVertices = func(v int) bool {
		if v == len(left) {
			return true
		}
		for _, x := range listOf(left[v]) {
			if slices.ContainsFunc(g.Edges, func(e impl.Edge) bool { return e[1] == int64(v) && numbers[e[0]] == x }) {
				continue
			}
			numbers[v] = x
			if lookVertices(v + 1) {
				return true
			}
		}
		return false
	}
	var lookEdges func(i int) bool
	lookEdges = func(i int) bool {
		if i == len(g.Edges) {
			return lookVertices(0)
		}
		a, b := g.Edges[i][0], g.Edges[i][1]
		missing[a]--
		missing[b]--
		for _, x := range listOf(left[a] & left[b]) {
			// The edges at the vertex 0 may have the numbers 0, 1 and 2.
			if i < 3 && x != int64(i) {
				continue
			}
			left[a] ^= 1 << x
			left[b] ^= 1 << x
			numbers[int(g.Size)+i] = x
			if !slices.ContainsFunc(g.Edges, isLost) && lookEdges(i+1) {
				return true
			}
			left[a] ^= 1 << x
			left[b] ^= 1 << x
		}
		missing[a]++
		missing[b]++
		return false
	}
	if !lookEdges(0) {
		return nil
	}
	return numbers
}

// refTotalNumber returns the total number and a total colouring for it. A vertex and its edges have four numbers.
func refTotalNumber(g impl.Graph) ([]int64, int64) {
	for k := int64(4); ; k++ {
		if list := refTotal(g, k); len(list) > 0 {
			return list, k
		}
	}
}
