package tests

import (
	"math/bits"
	"slices"

	"loop.example/g01329/impl"
)

// What chapter 4 says, written once more, in other ways than the program's and without it.

// refIsMatching looks at each vertex for its one edge.
func refIsMatching(g impl.Graph, list []int64) bool {
	if !slices.IsSorted(list) || int64(len(list)) != g.Size/2 {
		return false
	}
	counts := make([]int, g.Size)
	for _, e := range list {
		if e < 0 || e >= int64(len(g.Edges)) {
			return false
		}
		counts[g.Edges[e][0]]++
		counts[g.Edges[e][1]]++
	}
	return !slices.ContainsFunc(counts, func(count int) bool { return count != 1 })
}

// refMatchings takes or leaves each edge in turn. What no later edge can mend is not gone on with.
func refMatchings(g impl.Graph) [][]int64 {
	var found [][]int64
	var list []int64
	var look func(i int, met uint32)
	look = func(i int, met uint32) {
		if met == 1<<g.Size-1 {
			found = append(found, slices.Clone(list))
			return
		}
		if i == len(g.Edges) || bits.TrailingZeros32(^met) < int(g.Edges[i][0]) {
			return
		}
		look(i+1, met)
		ends := uint32(1)<<g.Edges[i][0] | uint32(1)<<g.Edges[i][1]
		if met&ends == 0 {
			list = append(list, int64(i))
			look(i+1, met|ends)
			list = list[:len(list)-1]
		}
	}
	look(0, 0)
	slices.SortFunc(found, func(a, b []int64) int { return slices.Compare(a, b) })
	return found
}

// refCountMatchings counts the matchings of ever greater sets of vertices.
func refCountMatchings(g impl.Graph) int64 {
	counts := make([]int64, 1<<g.Size)
	counts[0] = 1
	for set := 1; set < len(counts); set++ {
		top := int64(bits.Len(uint(set))) - 1
		for _, e := range g.Edges {
			if e[1] == top && set>>e[0]&1 == 1 {
				counts[set] += counts[set&^(1<<e[0]|1<<e[1])]
			}
		}
	}
	return counts[len(counts)-1]
}

// refLengths tells the cycles by their vertices: they have as many as edges.
func refLengths(g impl.Graph, matching []int64) []int64 {
	var lengths []int64
	for _, side := range refSides(g, matching) {
		lengths = append(lengths, int64(len(side)))
	}
	slices.Sort(lengths)
	return lengths
}

func refOdd(lengths []int64) int64 {
	odd := int64(0)
	for _, length := range lengths {
		odd += length & 1
	}
	return odd
}

// refBest returns the first best one of the matchings, and how many odd cycles each best one leaves.
func refBest(g impl.Graph, matchings [][]int64) ([]int64, int64) {
	odd := make([]int64, len(matchings))
	for i, matching := range matchings {
		odd[i] = refOdd(refLengths(g, matching))
	}
	least := slices.Min(odd)
	return matchings[slices.Index(odd, least)], least
}

// refCover joins the matchings with each other until all edges are there, or returns 0 if that is never so.
func refCover(g impl.Graph, matchings [][]int64) int64 {
	all := uint32(1)<<len(g.Edges) - 1
	reached := map[uint32]bool{0: true}
	for k := int64(1); ; k++ {
		next := map[uint32]bool{}
		for set := range reached {
			for _, matching := range matchings {
				next[set|setOf(matching)] = true
			}
		}
		if next[all] {
			return k
		}
		if len(next) == 0 || k > int64(len(g.Edges)) {
			return 0
		}
		reached = next
	}
}

// refHolds tells of each edge how many of the matchings have it.
func refHolds(g impl.Graph, matchings [][]int64) []int64 {
	counts := make([]int64, len(g.Edges))
	for _, matching := range matchings {
		for _, e := range matching {
			counts[e]++
		}
	}
	return counts
}
