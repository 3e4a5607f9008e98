package tests

import (
	"math/bits"
	"slices"

	"loop.example/g01329/impl"
)

// What chapter 3 says, written once more, in other ways than the program's and without it. Sets of
// vertices are the digits of a number in base 2.

// setOf returns the set that a list tells, as listOf returns the list.
func setOf(list []int64) uint32 {
	set := uint32(0)
	for _, v := range list {
		set |= 1 << v
	}
	return set
}

// refLeaving returns the edges with just one end in a set of vertices.
func refLeaving(g impl.Graph, set uint32) []int64 {
	var leaving []int64
	for i, e := range g.Edges {
		if set>>e[0]&1 != set>>e[1]&1 {
			leaving = append(leaving, int64(i))
		}
	}
	return leaving
}

// refGrown returns what can be reached from a set of vertices without the edges that are left out and
// without other vertices than those that are allowed.
func refGrown(g impl.Graph, set uint32, out []int64, allowed uint32) uint32 {
	for {
		before := set
		for i, e := range g.Edges {
			ends := uint32(1)<<e[0] | uint32(1)<<e[1]
			if ends&set != 0 && ends&^allowed == 0 && !slices.Contains(out, int64(i)) {
				set |= ends
			}
		}
		if set == before {
			return set
		}
	}
}

func refSides(g impl.Graph, out []int64) [][]int64 {
	all := uint32(1)<<g.Size - 1
	var sides [][]int64
	for left := all; left != 0; {
		side := refGrown(g, left&-left, out, all)
		sides = append(sides, listOf(side))
		left &^= side
	}
	return sides
}

// refIsEdgeCut looks for an edge whose ends have no way left between them.
func refIsEdgeCut(g impl.Graph, out []int64) bool {
	all := uint32(1)<<g.Size - 1
	return slices.ContainsFunc(g.Edges, func(e impl.Edge) bool {
		return refGrown(g, 1<<e[0], out, all)>>e[1]&1 == 0
	})
}

// refIsBond tells a bond as an edge cut that is none any more if any edge of it is put back.
func refIsBond(g impl.Graph, out []int64) bool {
	for i := range out {
		if refIsEdgeCut(g, slices.Delete(slices.Clone(out), i, i+1)) {
			return false
		}
	}
	return refIsEdgeCut(g, out)
}

// refHasCycle takes away vertices with at most one edge left until there are no more of them.
func refHasCycle(g impl.Graph, set uint32, out []int64) bool {
	for {
		before := set
		for v := range g.Size {
			degree := 0
			for i, e := range g.Edges {
				if (e[0] == v || e[1] == v) && set>>e[0]&1 == 1 && set>>e[1]&1 == 1 && !slices.Contains(out, int64(i)) {
					degree++
				}
			}
			if degree < 2 {
				set &^= 1 << v
			}
		}
		if set == before {
			return set != 0
		}
	}
}

// refCountCyclic counts the sides with a cycle.
func refCountCyclic(g impl.Graph, out []int64) int64 {
	count := int64(0)
	for _, side := range refSides(g, out) {
		if refHasCycle(g, setOf(side), out) {
			count++
		}
	}
	return count
}

// refCuts is what is known of a graph by a look at all sets of vertices: its bonds by their numbers of
// edges up to MaxCut, the least number of edges that leave a set, and the least one of those that leave
// a set with a cycle inside and one outside, or MaxCut + 1. The last two are for connected graphs.
type refCuts struct {
	bonds         [impl.MaxCut + 1][][]int64
	least, cyclic int64
}

func refCutsOf(g impl.Graph) refCuts {
	cuts := refCuts{least: impl.MaxCut + 1, cyclic: impl.MaxCut + 1}
	for _, part := range refSides(g, nil) {
		all := setOf(part)
		// Each way to make two sets of a part, told by the set with its least vertex.
		least := all & -all
		rest := all &^ least
		for set := (rest - 1) & rest; ; set = (set - 1) & rest {
			cuts.add(g, set|least, all)
			if set == 0 {
				break
			}
		}
	}
	for k := range cuts.bonds {
		slices.SortFunc(cuts.bonds[k], func(a, b []int64) int { return slices.Compare(a, b) })
	}
	return cuts
}

// add looks at the edges between a set and the rest of all vertices of its part.
func (cuts *refCuts) add(g impl.Graph, set uint32, all uint32) {
	inside := bits.OnesCount32(set)
	between := 0
	for _, e := range g.Edges {
		between += int(set>>e[0]&1 ^ set>>e[1]&1)
	}
	if between > impl.MaxCut || inside == 0 {
		return
	}
	k := int64(between)
	cuts.least = min(cuts.least, k)
	other := all &^ set
	if k < cuts.cyclic && refHasCycle(g, set, nil) && refHasCycle(g, other, nil) {
		cuts.cyclic = k
	}
	if refGrown(g, set&-set, nil, set) == set && refGrown(g, other&-other, nil, other) == other {
		cuts.bonds[k] = append(cuts.bonds[k], refLeaving(g, set))
	}
}
