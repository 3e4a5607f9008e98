package tests

import (
	"math/big"
	"math/bits"

	"loop.example/g01329/impl"
)

// What chapter 9 says, written once more, in other ways than the program's and without it.

// refTrees takes out vertices one by one. If the edges at one have the weights w together, spanning trees are w times those of what
// is left, in which each two of its neighbours have an edge more, with the product of the weights of their edges by w.
func refTrees(n int64, edges []impl.Edge) int64 {
	weights := make([][]*big.Rat, n)
	for v := range weights {
		weights[v] = make([]*big.Rat, n)
		for w := range weights[v] {
			weights[v][w] = new(big.Rat)
		}
	}
	add := func(a int64, b int64, weight *big.Rat) {
		weights[a][b].Add(weights[a][b], weight)
		weights[b][a].Add(weights[b][a], weight)
	}
	for _, e := range edges {
		add(e[0], e[1], big.NewRat(1, 1))
	}
	trees := big.NewRat(1, 1)
	for v := n - 1; v > 0; v-- {
		together := new(big.Rat)
		for a := range v {
			together.Add(together, weights[v][a])
		}
		if together.Sign() == 0 {
			return 0
		}
		trees.Mul(trees, together)
		for a := range v {
			for b := range a {
				product := new(big.Rat).Mul(weights[v][a], weights[v][b])
				add(a, b, product.Quo(product, together))
			}
		}
	}
	return trees.Num().Int64()
}

// refTreesWith returns the spanning trees that are none any more if an edge is taken out.
func refTreesWith(g impl.Graph, e int) int64 {
	var others []impl.Edge
	for i, edge := range g.Edges {
		if i != e {
			others = append(others, edge)
		}
	}
	return refTrees(g.Size, g.Edges) - refTrees(g.Size, others)
}

// refExpansion tells in how many ways so many edges are made a point, and so many are loops, if edges are taken in turn: one with
// two ends is made a point or taken out, and one with equal ends is a loop. What is made a point is each forest once.
type refExpansion [impl.MaxExpanded][3*impl.MaxExpanded/2 + 1]int64

func refExpand(g impl.Graph) *refExpansion {
	var table refExpansion
	var look func(i int, points [impl.MaxExpanded]int8, joined int, loops int)
	look = func(i int, points [impl.MaxExpanded]int8, joined int, loops int) {
		if i == len(g.Edges) {
			table[joined][loops]++
			return
		}
		a, b := points[g.Edges[i][0]], points[g.Edges[i][1]]
		if a == b {
			look(i+1, points, joined, loops+1)
			return
		}
		look(i+1, points, joined, loops)
		for v := range points {
			if points[v] == b {
				points[v] = a
			}
		}
		look(i+1, points, joined+1, loops)
	}
	var points [impl.MaxExpanded]int8
	for v := range points {
		points[v] = int8(v)
	}
	look(0, points, 0, 0)
	return &table
}

// each calls with how many edges are made a point, how many are loops, and in how many ways, but not with 0 ways.
func (table *refExpansion) each(call func(joined int, loops int, count int64)) {
	for joined, row := range table {
		for loops, count := range row {
			if count > 0 {
				call(joined, loops, count)
			}
		}
	}
}

// polynomial makes a factor x - 1 of each loop, and -1 of each edge that is taken out.
func (table *refExpansion) polynomial(g impl.Graph) []int64 {
	sum := make([]int64, len(g.Edges)+1)
	table.each(func(joined int, loops int, count int64) {
		power := []int64{count}
		if (len(g.Edges)-joined-loops)%2 == 1 {
			power[0] = -count
		}
		for range loops {
			power = append([]int64{0}, power...)
			for i := range len(power) - 1 {
				power[i] -= power[i+1]
			}
		}
		for i, x := range power {
			sum[i] += x
		}
	})
	return refTrimmed(sum)
}

// refTrimmed returns the numbers up to the last one that is not 0.
func refTrimmed(list []int64) []int64 {
	for len(list) > 0 && list[len(list)-1] == 0 {
		list = list[:len(list)-1]
	}
	return list
}

// refValueAt adds up the powers of x.
func refValueAt(polynomial []int64, x int64) int64 {
	sum, power := int64(0), int64(1)
	for _, factor := range polynomial {
		sum += factor * power
		power *= x
	}
	return sum
}

// forests counts what can be made a point.
func (table *refExpansion) forests() int64 {
	sum := int64(0)
	table.each(func(joined int, loops int, count int64) { sum += count })
	return sum
}

// connecting takes or leaves the loops of each forest that makes one point of all vertices.
func (table *refExpansion) connecting(g impl.Graph) int64 {
	sum := int64(0)
	table.each(func(joined int, loops int, count int64) {
		if joined == int(g.Size)-1 {
			sum += count << loops
		}
	})
	return sum
}

// trees counts the forests that make one point of all vertices.
func (table *refExpansion) trees(g impl.Graph) int64 {
	sum := int64(0)
	for _, count := range table[g.Size-1] {
		sum += count
	}
	return sum
}

// refByLength looks at all sets of edges.
func refByLength(g impl.Graph) []int64 {
	counts := make([]int64, g.Size+1)
	for _, cycle := range refAllCycles(g) {
		counts[bits.OnesCount32(cycle)]++
	}
	return counts
}

// refRounds counts the ways from the vertex 0 that meet a set of vertices and end at one of them, for ever greater sets.
func refRounds(g impl.Graph) int64 {
	all := 1<<g.Size - 1
	ways := make([][impl.MaxVertices]int64, all+1)
	ways[1][0] = 1
	for set := 1; set < all; set++ {
		for v := range g.Size {
			if ways[set][v] == 0 {
				continue
			}
			for _, w := range refEnds(g, v) {
				if set>>w&1 == 0 {
					ways[set|1<<w][w] += ways[set][v]
				}
			}
		}
	}
	back := int64(0)
	for _, w := range refEnds(g, 0) {
		back += ways[all][w]
	}
	if g.Size == 2 {
		// Three of these go back along the edge along which they came.
		back -= 3
	}
	// Each cycle is gone around in both directions.
	return back / 2
}

// refWays returns the numbers of the ways of a length to a vertex, by the first edge of each.
func refWays(g impl.Graph, b int64, k int64) []int64 {
	ways := make([]int64, g.Size)
	if k == 0 {
		ways[b] = 1
		return ways
	}
	behind := refWays(g, b, k-1)
	for v := range ways {
		for _, w := range refEnds(g, int64(v)) {
			ways[v] += behind[w]
		}
	}
	return ways
}

// refListsOfWays returns the lists of k edges that lead from a to b, each beginning where the one before ends.
func refListsOfWays(g impl.Graph, a int64, b int64, k int) int64 {
	count := int64(0)
	allValues(k, 0, int64(len(g.Edges))-1, func(list []int64) {
		at := a
		for _, i := range list {
			e := g.Edges[i]
			if e[0] != at && e[1] != at {
				return
			}
			at = e[0] + e[1] - at
		}
		if at == b {
			count++
		}
	})
	return count
}
