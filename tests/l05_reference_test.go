package tests

import (
	"math/rand"
	"slices"

	"loop.example/g01329/impl"
)

// What chapter 5 says, written once more, in other ways than the program's and without it.

// refIsFlow compares what is directed to each vertex with what is directed from it: their rests by m, or,
// if m is 0, the sums themselves.
func refIsFlow(g impl.Graph, m int64, list []int64) bool {
	for v := range g.Size {
		to, from := int64(0), int64(0)
		for i, e := range g.Edges {
			switch v {
			case e[0]:
				from += list[i]
			case e[1]:
				to += list[i]
			}
		}
		if m > 0 {
			to, from = to%m, from%m
		}
		if to != from {
			return false
		}
	}
	return true
}

// refIsWholeFlow looks at the absolute values and at the sums.
func refIsWholeFlow(g impl.Graph, k int64, list []int64) bool {
	for _, x := range list {
		if x == 0 || max(x, -x) >= k {
			return false
		}
	}
	return refIsFlow(g, 0, list)
}

// refValues are the values of the nowhere-zero flows modulo m, or of the whole flows within m.
func refValues(m int64, whole bool) []int64 {
	var values []int64
	for x := 1 - m; x < m; x++ {
		if x > 0 || whole && x < 0 {
			values = append(values, x)
		}
	}
	return values
}

// refState is what is to be known of the first values of a list: how many there are, and the sums at the
// vertices.
type refState struct {
	edge int
	sums [impl.MaxVertices]int64
}

// refFirst gives values to the edges in turn. It remembers from which sums at the vertices it found no flow,
// and does not go on where a vertex has all its edges and no equal sums, or one edge that can not mend them.
// It returns the least nowhere-zero flow modulo m, or the least whole flow within m, or nothing.
func refFirst(g impl.Graph, m int64, whole bool) []int64 {
	values := refValues(m, whole)
	missing := make([][impl.MaxVertices]int, len(g.Edges)+1)
	for i := len(g.Edges) - 1; i >= 0; i-- {
		missing[i] = missing[i+1]
		missing[i][g.Edges[i][0]]++
		missing[i][g.Edges[i][1]]++
	}
	isLost := func(sum int64, missing int) bool {
		return missing == 0 && sum != 0 || missing == 1 && (sum == 0 || max(sum, -sum) >= m)
	}
	lost := map[refState]bool{}
	list := make([]int64, len(g.Edges))
	var look func(state refState) bool
	look = func(state refState) bool {
		if state.edge == len(list) {
			return true
		}
		if lost[state] {
			return false
		}
		e := g.Edges[state.edge]
		left := missing[state.edge+1]
		for _, x := range values {
			next := state
			next.edge++
			next.sums[e[0]] -= x
			next.sums[e[1]] += x
			if !whole {
				next.sums[e[0]] = (next.sums[e[0]] + m) % m
				next.sums[e[1]] %= m
			}
			if isLost(next.sums[e[0]], left[e[0]]) || isLost(next.sums[e[1]], left[e[1]]) {
				continue
			}
			list[state.edge] = x
			if look(next) {
				return true
			}
		}
		lost[state] = true
		return false
	}
	if !look(refState{}) {
		return nil
	}
	return list
}

// refCountFlows counts the nowhere-zero flows modulo m of any edges, the ends of which may be equal. If an
// edge has two ends, flows with any value of it are those of the edges with its ends made one; those with
// the value 0 are those of the edges without it.
func refCountFlows(edges []impl.Edge, m int64) int64 {
	if len(edges) == 0 {
		return 1
	}
	e, rest := edges[0], edges[1:]
	if e[0] == e[1] {
		return (m - 1) * refCountFlows(rest, m)
	}
	joined := slices.Clone(rest)
	for i := range joined {
		for j := range joined[i] {
			if joined[i][j] == e[1] {
				joined[i][j] = e[0]
			}
		}
	}
	return refCountFlows(joined, m) - refCountFlows(rest, m)
}

// refCountPairs counts the lists of values 1 to 3 of which both digits have even sums at each vertex.
func refCountPairs(g impl.Graph) int64 {
	at := make([]int64, g.Size)
	missing := make([]int, g.Size)
	for v := range missing {
		missing[v] = 3
	}
	var count func(i int) int64
	count = func(i int) int64 {
		if i == len(g.Edges) {
			return 1
		}
		a, b := g.Edges[i][0], g.Edges[i][1]
		missing[a]--
		missing[b]--
		sum := int64(0)
		for x := int64(1); x <= 3; x++ {
			at[a] ^= x
			at[b] ^= x
			if (missing[a] > 0 || at[a] == 0) && (missing[b] > 0 || at[b] == 0) {
				sum += count(i + 1)
			}
			at[a] ^= x
			at[b] ^= x
		}
		missing[a]++
		missing[b]++
		return sum
	}
	return count(0)
}

// refFlowNumber returns the least m for which there is a nowhere-zero flow modulo m, or 0 if there is none.
func refFlowNumber(g impl.Graph) int64 {
	for m := int64(2); m <= 6; m++ {
		if len(refFirst(g, m, false)) > 0 {
			return m
		}
	}
	return 0
}

// refBridges returns the edges without which one end can not be reached from the other one.
func refBridges(g impl.Graph) []int64 {
	var bridges []int64
	for i, e := range g.Edges {
		if refGrown(g, 1<<e[0], []int64{int64(i)}, 1<<g.Size-1)>>e[1]&1 == 0 {
			bridges = append(bridges, int64(i))
		}
	}
	return bridges
}

// refWay returns which edges lead from a to b without the edges that are left out, and 1 for each one that
// is gone along in its direction, -1 for the others.
func refWay(g impl.Graph, a int64, b int64, out []int64) map[int64]int64 {
	steps := map[int64]int64{}
	met := map[int64]bool{}
	var reach func(v int64) bool
	reach = func(v int64) bool {
		met[v] = true
		if v == b {
			return true
		}
		for i, e := range g.Edges {
			edge := int64(i)
			if slices.Contains(out, edge) || e[0] != v && e[1] != v {
				continue
			}
			other := e[0] + e[1] - v
			if met[other] {
				continue
			}
			steps[edge] = 1
			if e[1] == v {
				steps[edge] = -1
			}
			if reach(other) {
				return true
			}
			delete(steps, edge)
		}
		return false
	}
	reach(a)
	return steps
}

// drawnFlow returns a whole flow, always the same one for the same draws: the sum of values on cycles, one
// for each edge whose ends others join too.
func drawnFlow(draw *rand.Rand, g impl.Graph, greatest int64) []int64 {
	list := make([]int64, len(g.Edges))
	bridges := refBridges(g)
	for i, e := range g.Edges {
		if slices.Contains(bridges, int64(i)) {
			continue
		}
		x := draw.Int63n(2*greatest+1) - greatest
		list[i] += x
		for edge, sign := range refWay(g, e[1], e[0], []int64{int64(i)}) {
			list[edge] += sign * x
		}
	}
	return list
}

// modulo returns the rests of whole numbers by m.
func modulo(list []int64, m int64) []int64 {
	rests := make([]int64, len(list))
	for i, x := range list {
		rests[i] = (x%m + m) % m
	}
	return rests
}
