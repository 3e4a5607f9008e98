package tests

import (
	"math/bits"
	"math/rand"
	"slices"
	"testing"

	"loop.example/g01329/impl"
)

// What chapter 7 says, written once more, in other ways than the program's and without it. Sets of edges are the
// digits of a number in base 2, as setOf and listOf have them.

// refEdgesAt returns the set of the edges at each vertex.
func refEdgesAt(g impl.Graph) []uint32 {
	at := make([]uint32, g.Size)
	for i, e := range g.Edges {
		at[e[0]] |= 1 << i
		at[e[1]] |= 1 << i
	}
	return at
}

// refIsEven counts the edges of a set at each vertex.
func refIsEven(at []uint32, set uint32) bool {
	for _, around := range at {
		if bits.OnesCount32(around&set)%2 != 0 {
			return false
		}
	}
	return true
}

// refCyclesOf takes apart what is joined by common vertices, from the least edges on.
func refCyclesOf(at []uint32, set uint32) []uint32 {
	var cycles []uint32
	for left := set; left != 0; {
		cycle := left & -left
		for before := uint32(0); before != cycle; {
			before = cycle
			for _, around := range at {
				if around&cycle != 0 {
					cycle |= around & set
				}
			}
		}
		cycles = append(cycles, cycle)
		left &^= cycle
	}
	return cycles
}

func refIsCycle(at []uint32, set uint32) bool {
	return refIsEven(at, set) && len(refCyclesOf(at, set)) == 1
}

// refAllCycles looks at all sets of edges.
func refAllCycles(g impl.Graph) []uint32 {
	at := refEdgesAt(g)
	var cycles []uint32
	for set := range uint32(1) << len(g.Edges) {
		if refIsCycle(at, set) {
			cycles = append(cycles, set)
		}
	}
	slices.SortFunc(cycles, func(a, b uint32) int {
		if sizes := bits.OnesCount32(a) - bits.OnesCount32(b); sizes != 0 || a == b {
			return sizes
		}
		// Of two sets of the same size the lesser one has the least edge that is in just one of them.
		if least := (a ^ b) & -(a ^ b); a&least != 0 {
			return -1
		}
		return 1
	})
	return cycles
}

// refIsDoubleCover keeps apart what is in one of the cycles, and in two of them.
func refIsDoubleCover(g impl.Graph, at []uint32, sets []uint32) bool {
	once, twice := uint32(0), uint32(0)
	for _, set := range sets {
		if !refIsCycle(at, set) || twice&set != 0 {
			return false
		}
		twice |= once & set
		once |= set
	}
	return twice == 1<<len(g.Edges)-1
}

// refRound returns 1 for each edge of a cycle that is gone along from its lesser vertex to its greater one, -1 for
// those gone along the other way, and 0 for others: the least edge has the value told, and at each vertex as many
// lead there as lead away.
func refRound(g impl.Graph, cycle []int64, first int64) []int64 {
	values := make([]int64, len(g.Edges))
	values[cycle[0]] = first
	for range cycle {
		for v := range g.Size {
			sum, missing := int64(0), []int64{}
			for _, e := range cycle {
				switch {
				case g.Edges[e][0] != v && g.Edges[e][1] != v:
				case values[e] == 0:
					missing = append(missing, e)
				case g.Edges[e][0] == v:
					sum -= values[e]
				default:
					sum += values[e]
				}
			}
			if len(missing) == 1 && g.Edges[missing[0]][0] == v {
				values[missing[0]] = sum
			} else if len(missing) == 1 {
				values[missing[0]] = -sum
			}
		}
	}
	return values
}

// refIsOriented adds up how the cycles of a double cover go along each edge: once each way makes 0.
func refIsOriented(g impl.Graph, cycles [][]int64, turns []int64) bool {
	sums := make([]int64, len(g.Edges))
	for i, cycle := range cycles {
		for e, x := range refRound(g, cycle, 1-2*turns[i]) {
			sums[e] += x
		}
	}
	return !slices.ContainsFunc(sums, func(sum int64) bool { return sum != 0 })
}

// A step is an edge and the vertex to which it is gone along.
type step struct{ edge, to int64 }

// refBehind returns the edge that comes behind one at a vertex.
func refBehind(g impl.Graph, rotation []int64, s step) step {
	around := listOf(refEdgesAt(g)[s.to])
	a, b, c := around[0], around[1], around[2]
	behind := map[int64]int64{a: b, b: c, c: a}
	if rotation[s.to] == 1 {
		behind = map[int64]int64{a: c, c: b, b: a}
	}
	e := behind[s.edge]
	return step{e, g.Edges[e][0] + g.Edges[e][1] - s.to}
}

// checkFaces goes along each face, and looks that they are all there, begin where they are to begin, and are in order.
func checkFaces(t *testing.T, g impl.Graph, rotation []int64, faces [][]int64) {
	t.Helper()
	gone := map[step]bool{}
	rest := faces
	for i, e := range g.Edges {
		for _, to := range []int64{e[1], e[0]} {
			start := step{int64(i), to}
			if gone[start] {
				continue
			}
			if len(rest) == 0 {
				t.Fatalf("FacesOf(%v, %v) = %v: no face begins with %v", g, rotation, faces, start)
			}
			at := start
			for _, edge := range rest[0] {
				if edge != at.edge || gone[at] {
					t.Fatalf("FacesOf(%v, %v) = %v: %d in the face of %v, not %v", g, rotation, faces, edge, start, at)
				}
				gone[at] = true
				at = refBehind(g, rotation, at)
			}
			if at != start {
				t.Fatalf("FacesOf(%v, %v) = %v: the face of %v leads to %v", g, rotation, faces, start, at)
			}
			rest = rest[1:]
		}
	}
	if len(rest) != 0 {
		t.Fatalf("FacesOf(%v, %v) = %v: %v has been gone along", g, rotation, faces, rest)
	}
}

// refGroups are the directed edges put together to groups: 2 e is the edge e from its lesser vertex to its greater one,
// 2 e + 1 the other way.
type refGroups []int

func (groups refGroups) of(x int) int {
	for groups[x] != x {
		x = groups[x]
	}
	return x
}

// refGenus counts faces without going along them: what comes behind each other at a vertex is in the same group. The
// edges at each vertex are told.
func refGenus(g impl.Graph, around [][]int64, rotation []int64) int64 {
	groups := make(refGroups, 2*len(g.Edges))
	for x := range groups {
		groups[x] = x
	}
	faces := len(groups)
	for v, edges := range around {
		for i := range edges {
			a, b := edges[i], edges[(i+1)%3]
			if rotation[v] == 1 {
				a, b = b, a
			}
			to, from := groups.of(directedTo(g, a, int64(v))), groups.of(directedTo(g, b, int64(v))^1)
			if to != from {
				groups[to] = from
				faces--
			}
		}
	}
	return (2 - g.Size + int64(len(g.Edges)) - int64(faces)) / 2
}

// directedTo returns the number of an edge directed to a vertex.
func directedTo(g impl.Graph, e int64, v int64) int {
	if g.Edges[e][1] == v {
		return 2 * int(e)
	}
	return 2*int(e) + 1
}

// refLeastGenus looks at all rotations.
func refLeastGenus(g impl.Graph) int64 {
	around := listsOfSets(refEdgesAt(g))
	least := int64(len(g.Edges))
	allValues(int(g.Size), 0, 1, func(rotation []int64) {
		least = min(least, refGenus(g, around, rotation))
	})
	return least
}

// drawnEvenSet returns a sum of some of the cycles that an edge makes with a way around it.
func drawnEvenSet(draw *rand.Rand, g impl.Graph) []int64 {
	set := uint32(0)
	bridges := refBridges(g)
	for i, e := range g.Edges {
		if slices.Contains(bridges, int64(i)) || draw.Intn(3) == 0 {
			continue
		}
		set ^= 1 << i
		for edge := range refWay(g, e[0], e[1], []int64{int64(i)}) {
			set ^= 1 << edge
		}
	}
	return listOf(set)
}

// drawnRotation returns a list of numbers 0 and 1 for the vertices.
func drawnRotation(draw *rand.Rand, n int64) []int64 {
	rotation := make([]int64, n)
	for v := range rotation {
		rotation[v] = draw.Int63n(2)
	}
	return rotation
}

// listsOfSets returns the lists that tell sets.
func listsOfSets(sets []uint32) [][]int64 {
	var lists [][]int64
	for _, set := range sets {
		lists = append(lists, listOf(set))
	}
	return lists
}
