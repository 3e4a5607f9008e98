package tests

import (
	"fmt"
	"slices"

	"loop.example/g01329/impl"
)

// What chapter 2 says, written once more, in other ways than the program's and without it.

// refIsColouring looks at each vertex for its three colours.
func refIsColouring(g impl.Graph, c []int64) bool {
	if len(c) != len(g.Edges) {
		return false
	}
	for v := range g.Size {
		var around []int64
		for i, e := range g.Edges {
			if e[0] == v || e[1] == v {
				around = append(around, c[i])
			}
		}
		slices.Sort(around)
		if !slices.Equal(around, []int64{0, 1, 2}) {
			return false
		}
	}
	return true
}

// allLists calls with each list of m numbers 0, 1 and 2, in lexicographic order.
func allLists(m int, call func(c []int64)) {
	c := make([]int64, m)
	for {
		call(c)
		i := m - 1
		for i >= 0 && c[i] == 2 {
			c[i] = 0
			i--
		}
		if i < 0 {
			return
		}
		c[i]++
	}
}

// refCount counts the colourings by the edges with the colour 0: they meet each vertex once, and each
// of the cycles that they leave has two colourings, or none if it is odd.
func refCount(g impl.Graph) int64 {
	total := int64(0)
	in := make([]bool, len(g.Edges))
	met := make([]bool, g.Size)
	var match func()
	match = func() {
		v := slices.Index(met, false)
		if v < 0 {
			total += refTwoColourings(g, in)
			return
		}
		for i, e := range g.Edges {
			if e[0] == int64(v) && !met[e[1]] {
				in[i], met[e[0]], met[e[1]] = true, true, true
				match()
				in[i], met[e[0]], met[e[1]] = false, false, false
			}
		}
	}
	match()
	return total
}

// refTwoColourings returns in how many ways the edges that are not in the set have two colours.
func refTwoColourings(g impl.Graph, in []bool) int64 {
	group := make([]int64, g.Size)
	for v := range group {
		group[v] = int64(v)
	}
	for i, e := range g.Edges {
		if from, to := group[e[0]], group[e[1]]; !in[i] && from != to {
			for v := range group {
				if group[v] == from {
					group[v] = to
				}
			}
		}
	}
	sizes := map[int64]int{}
	for _, name := range group {
		sizes[name]++
	}
	ways := int64(1)
	for _, size := range sizes {
		if size%2 != 0 {
			return 0
		}
		ways *= 2
	}
	return ways
}

// refChain adds edges of the two colours that have a vertex in common with one of the chain, until
// there are no more.
func refChain(g impl.Graph, c []int64, e int64, b int64) []int64 {
	in := make([]bool, len(c))
	in[e] = true
	for grown := true; grown; {
		grown = false
		for i := range c {
			for j := range c {
				if in[i] && !in[j] && (c[j] == c[e] || c[j] == b) && haveCommonVertex(g.Edges[i], g.Edges[j]) {
					in[j], grown = true, true
				}
			}
		}
	}
	var chain []int64
	for i, yes := range in {
		if yes {
			chain = append(chain, int64(i))
		}
	}
	return chain
}

func haveCommonVertex(a impl.Edge, b impl.Edge) bool {
	return a[0] == b[0] || a[0] == b[1] || a[1] == b[0] || a[1] == b[1]
}

func refExchange(g impl.Graph, c []int64, e int64, b int64) []int64 {
	made := slices.Clone(c)
	for _, i := range refChain(g, c, e, b) {
		if c[i] == b {
			made[i] = c[e]
		} else {
			made[i] = b
		}
	}
	return made
}

// refReached counts what is reached, or returns -1 if that is more than MaxReached.
func refReached(g impl.Graph, c []int64) int64 {
	met := map[string]bool{fmt.Sprint(c): true}
	queue := [][]int64{c}
	for len(queue) > 0 {
		from := queue[0]
		queue = queue[1:]
		for e := range from {
			for b := range int64(3) {
				if b == from[e] {
					continue
				}
				to := refExchange(g, from, int64(e), b)
				if key := fmt.Sprint(to); !met[key] {
					met[key] = true
					queue = append(queue, to)
				}
			}
			if len(met) > impl.MaxReached {
				return -1
			}
		}
	}
	return int64(len(met))
}

// refChainNumbers counts the chains by their least edges.
func refChainNumbers(g impl.Graph, c []int64) []int64 {
	var numbers []int64
	for _, pair := range [][2]int64{{0, 1}, {0, 2}, {1, 2}} {
		count := int64(0)
		for e := range c {
			other := pair[0] + pair[1] - c[e]
			if (c[e] == pair[0] || c[e] == pair[1]) && refChain(g, c, int64(e), other)[0] == int64(e) {
				count++
			}
		}
		numbers = append(numbers, count)
	}
	return numbers
}

// refAlike tries all six renamings.
func refAlike(a []int64, b []int64) bool {
	for _, name := range renamingsOfColours() {
		if slices.Equal(renamedBy(a, name), b) {
			return true
		}
	}
	return false
}

func renamingsOfColours() [][3]int64 {
	return [][3]int64{{0, 1, 2}, {0, 2, 1}, {1, 0, 2}, {1, 2, 0}, {2, 0, 1}, {2, 1, 0}}
}

func renamedBy(c []int64, name [3]int64) []int64 {
	made := make([]int64, len(c))
	for i, colour := range c {
		made[i] = name[colour]
	}
	return made
}

// refCut counts the edges that leave a set which is told by the digits of a number in base 2.
func refCut(g impl.Graph, c []int64, set uint32) []int64 {
	numbers := []int64{0, 0, 0}
	for i, e := range g.Edges {
		if (set>>e[0])&1+(set>>e[1])&1 == 1 {
			numbers[c[i]]++
		}
	}
	return numbers
}

// listOf returns the set that is told by the digits of a number in base 2.
func listOf(set uint32) []int64 {
	var list []int64
	for v := range int64(32) {
		if set>>v&1 == 1 {
			list = append(list, v)
		}
	}
	return list
}
