package tests

import (
	"math/rand"
	"slices"
	"sync"
	"testing"

	"loop.example/g01329/impl"
)

// drawnRenumbering returns a renumbering of n vertices.
func drawnRenumbering(draw *rand.Rand, n int64) []int64 {
	var list []int64
	for _, v := range draw.Perm(int(n)) {
		list = append(list, int64(v))
	}
	return list
}

// Promise 10: found renumberings lead to the graphs. They are the least ones, and they are found for all graphs that are renumbered.
func TestPromise10FoundRenumberingsLeadToTheGraphs(t *testing.T) {
	draw := rand.New(rand.NewSource(31))
	for _, g := range connectedGraphs(t) {
		for range 3 {
			p := drawnRenumbering(draw, g.Size)
			h, _ := impl.RenumberGraph(g, p)
			if yes, code := impl.LeadsTo(g, h, p); !yes || code != impl.ErrNone {
				t.Fatalf("LeadsTo(%v, %v, %v) = %v, %d", g, h, p, yes, code)
			}
			if same, code := impl.AreIsomorphic(g, h); !same || code != impl.ErrNone {
				t.Fatalf("AreIsomorphic(%v, %v) = %v, %d", g, h, same, code)
			}
			found, code := impl.FindRenumbering(g, h)
			want := refRenumberings(g, h)[0]
			if !slices.Equal(found, want) || code != impl.ErrNone || !refLeads(g, h, found) || slices.Compare(found, p) > 0 {
				t.Fatalf("FindRenumbering(%v, %v) = %v, %d, not %v", g, h, found, code, want)
			}
			if yes, code := impl.LeadsTo(g, h, found); !yes || code != impl.ErrNone {
				t.Fatalf("LeadsTo(%v, %v, %v) = %v, %d", g, h, found, yes, code)
			}
			if yes, code := impl.LeadsTo(h, g, inverse(found)); !yes || code != impl.ErrNone {
				t.Fatalf("LeadsTo(%v, %v, %v) = %v, %d", h, g, inverse(found), yes, code)
			}
		}
		if found, code := impl.FindRenumbering(g, g); !slices.Equal(found, numbersUpTo(int(g.Size))) || code != impl.ErrNone {
			t.Fatalf("FindRenumbering(%v) to itself = %v, %d", g, found, code)
		}
	}
}

// Promise 10: the number of automorphisms is that of an orbit times a stabiliser number, and they are all that lead a graph to itself.
func TestPromise10OrbitsTimesStabilisers(t *testing.T) {
	numbers := map[int64]int{}
	for _, g := range connectedGraphs(t) {
		want := refRenumberings(g, g)
		count, code := impl.CountAutomorphisms(g)
		if count != int64(len(want)) || code != impl.ErrNone {
			t.Fatalf("CountAutomorphisms(%v) = %d, %d, not %d", g, count, code, len(want))
		}
		numbers[count]++
		checkListed(t, g, want)
		orbits, code := impl.VertexOrbits(g)
		if code != impl.ErrNone || !sameParts(orbits, refOrbits(int(g.Size), want)) {
			t.Fatalf("VertexOrbits(%v) = %v, %d", g, orbits, code)
		}
		for _, orbit := range orbits {
			for _, v := range orbit {
				stabiliser, code := impl.StabiliserNumber(g, v)
				if stabiliser != refStabiliser(want, v) || code != impl.ErrNone || stabiliser*int64(len(orbit)) != count {
					t.Fatalf("%v: StabiliserNumber %d = %d, %d, not %d; the orbit is %v of %d", g, v, stabiliser, code, refStabiliser(want, v), orbit, count)
				}
			}
		}
	}
	if numbers[1] < 20 || numbers[2] < 10 || numbers[240] == 0 || numbers[256] == 0 || numbers[768] == 0 || len(numbers) < 15 {
		t.Error("graphs by their numbers of automorphisms:", numbers)
	}
}

// checkListed looks at the list of the automorphisms, of which there may be too many.
func checkListed(t *testing.T, g impl.Graph, want [][]int64) {
	t.Helper()
	wanted := int64(impl.ErrNone)
	if len(want) > impl.MaxAutomorphisms {
		want, wanted = nil, impl.ErrLimit
	}
	if lists, code := impl.AutomorphismsOf(g); !sameParts(lists, want) || code != wanted {
		t.Fatalf("AutomorphismsOf(%v) = %v, %d, not %v, %d", g, lists, code, want, wanted)
	}
}

// refStabiliser returns how many renumberings keep a vertex.
func refStabiliser(renumberings [][]int64, v int64) int64 {
	count := int64(0)
	for _, list := range renumberings {
		if list[v] == v {
			count++
		}
	}
	return count
}

// Orbits have all edges once, the images of each edge, and all edges that are equal to one of them. Other numbers of the vertices only
// give them other names.
func TestOrbitsOfEdges(t *testing.T) {
	draw := rand.New(rand.NewSource(32))
	apart := 0
	for _, g := range connectedGraphs(t) {
		orbits, code := impl.EdgeOrbits(g)
		want := refOrbits(len(g.Edges), refEdgeImages(g, refRenumberings(g, g)))
		if !sameParts(orbits, want) || code != impl.ErrNone {
			t.Fatalf("EdgeOrbits(%v) = %v, %d, not %v", g, orbits, code, want)
		}
		met := slices.Concat(orbits...)
		slices.Sort(met)
		if !slices.Equal(met, numbersUpTo(len(g.Edges))) {
			t.Fatalf("EdgeOrbits(%v) = %v", g, orbits)
		}
		p := drawnRenumbering(draw, g.Size)
		h, _ := impl.RenumberGraph(g, p)
		others, _ := impl.EdgeOrbits(h)
		if sizes(orbits) != sizes(others) {
			t.Fatalf("EdgeOrbits(%v) = %v, of %v it is %v", g, orbits, h, others)
		}
		vertices, _ := impl.VertexOrbits(g)
		moved, _ := impl.VertexOrbits(h)
		if sizes(vertices) != sizes(moved) {
			t.Fatalf("VertexOrbits(%v) = %v, of %v it is %v", g, vertices, h, moved)
		}
		if len(vertices) == 1 && len(orbits) > 1 {
			apart++
		}
	}
	if apart < 5 {
		t.Error("graphs with one orbit of vertices and more of edges:", apart)
	}
}

// sizes returns how many lists have each length.
func sizes(lists [][]int64) [31]int {
	var with [31]int
	for _, list := range lists {
		with[len(list)]++
	}
	return with
}

// Automorphisms one after the other, and back, are automorphisms again.
func TestAutomorphismsOneAfterTheOther(t *testing.T) {
	draw := rand.New(rand.NewSource(33))
	for _, g := range connectedGraphs(t) {
		lists, code := impl.AutomorphismsOf(g)
		if code != impl.ErrNone {
			continue
		}
		for _, p := range lists {
			q := lists[draw.Intn(len(lists))]
			for _, list := range [][]int64{composed(p, q), inverse(p)} {
				if _, found := slices.BinarySearchFunc(lists, list, slices.Compare[[]int64]); !found {
					t.Fatalf("AutomorphismsOf(%v) has %v and %v, but not %v", g, p, q, list)
				}
			}
		}
	}
}

// All lists of the vertices of small graphs are tried: those that lead are as many as are counted, and the first one is found.
func TestRenumberingsAmongAllLists(t *testing.T) {
	var graphs []impl.Graph
	for _, g := range drawnGraphs(12) {
		if g.Size <= 6 {
			graphs = append(graphs, g)
		}
	}
	graphs = append(graphs, named(t, "k33"), named(t, "prism"), cubicLadder(6), thetas(t, 3), beside(t, named(t, "theta"), named(t, "k4")))
	told := map[bool]int{}
	for _, g := range graphs {
		for _, h := range graphs {
			if g.Size == h.Size {
				least, count := checkAllRenumberings(t, g, h)
				told[count > 0]++
				checkFirst(t, g, h, least)
			}
		}
	}
	if told[true] < 100 || told[false] < 100 {
		t.Error("pairs that are isomorphic, and not:", told)
	}
}

// checkAllRenumberings looks at LeadsTo of all renumberings, and returns the least one that leads g to h and how many there are.
func checkAllRenumberings(t *testing.T, g impl.Graph, h impl.Graph) ([]int64, int64) {
	t.Helper()
	var least []int64
	count := int64(0)
	eachRenumbering(g.Size, func(list []int64) {
		yes, code := impl.LeadsTo(g, h, list)
		if yes != refLeads(g, h, list) || code != impl.ErrNone {
			t.Fatalf("LeadsTo(%v, %v, %v) = %v, %d", g, h, list, yes, code)
		}
		if yes && count == 0 {
			least = slices.Clone(list)
		}
		if yes {
			count++
		}
	})
	if refIsConnected(g) && sameGraph(g, h) {
		if n, code := impl.CountAutomorphisms(g); n != count || code != impl.ErrNone {
			t.Fatalf("CountAutomorphisms(%v) = %d, %d, not %d", g, n, code, count)
		}
	}
	return least, count
}

// checkFirst looks at what is found for graphs of which the least renumbering is known.
func checkFirst(t *testing.T, g impl.Graph, h impl.Graph, least []int64) {
	t.Helper()
	found, a := impl.FindRenumbering(g, h)
	same, b := impl.AreIsomorphic(g, h)
	if !refIsConnected(g) || !refIsConnected(h) {
		if len(found) != 0 || same || a != impl.ErrState || b != impl.ErrState {
			t.Fatalf("%v, %v: FindRenumbering = %v, %d, AreIsomorphic = %v, %d", g, h, found, a, same, b)
		}
		return
	}
	want := int64(impl.ErrNone)
	if len(least) == 0 {
		want = impl.ErrNotFound
	}
	if !slices.Equal(found, least) || a != want || same != (len(least) > 0) || b != impl.ErrNone {
		t.Fatalf("%v, %v: FindRenumbering = %v, %d, AreIsomorphic = %v, %d, not %v", g, h, found, a, same, b, least)
	}
}

// Pairs of graphs of the same Size are isomorphic exactly if there is a renumbering.
func TestPairsOfGraphs(t *testing.T) {
	draw := rand.New(rand.NewSource(34))
	told := map[bool]int{}
	graphs := connectedGraphs(t)
	for i, g := range graphs {
		for _, h := range graphs[:i] {
			if g.Size != h.Size || draw.Intn(4) > 0 {
				continue
			}
			var least []int64
			if all := refRenumberings(g, h); len(all) > 0 {
				least = all[0]
			}
			checkFirst(t, g, h, least)
			told[len(least) > 0]++
		}
	}
	if told[true] < 20 || told[false] < 200 {
		t.Error("pairs that are isomorphic, and not:", told)
	}
}

// Lists that lead nearly, or not at all, are told from those that lead. Graphs that are not connected are led too.
func TestLeadsToOfDrawnLists(t *testing.T) {
	draw := rand.New(rand.NewSource(35))
	told := map[bool]int{}
	for _, g := range append(graphsWithFlows(t), parsed(t, hung768), parsed(t, dodecahedron)) {
		for range 5 {
			p := drawnRenumbering(draw, g.Size)
			h := impl.Graph{Size: g.Size, Edges: refImages(g, p)}
			lists := [][]int64{p, drawnRenumbering(draw, g.Size), inverse(p)}
			for range 5 {
				i, j := draw.Int63n(g.Size), draw.Int63n(g.Size)
				list := slices.Clone(p)
				list[i], list[j] = list[j], list[i]
				lists = append(lists, list)
			}
			for _, list := range lists {
				want := refLeads(g, h, list)
				if yes, code := impl.LeadsTo(g, h, list); yes != want || code != impl.ErrNone {
					t.Fatalf("LeadsTo(%v, %v, %v) = %v, %d", g, h, list, yes, code)
				}
				told[want]++
			}
		}
	}
	if told[true] < 1000 || told[false] < 1000 {
		t.Error("lists that lead, and not:", told)
	}
}

// Among all connected graphs of n vertices are as many that are isomorphic to one of them as there are renumberings, divided by its
// automorphisms.
func TestKindsOfConnectedGraphs(t *testing.T) {
	for n, kinds := range map[int64]int{2: 1, 4: 2, 6: 6, 8: 20} {
		renumberings := int64(1)
		for v := int64(2); v <= n; v++ {
			renumberings *= v
		}
		var found []impl.Graph
		left := int64(0)
		eachLabelled(n, func(g impl.Graph) {
			if !refIsConnected(g) {
				return
			}
			left++
			// A seventh of the graphs with 8 vertices shows all of their kinds.
			if left%7 == 0 || n < 8 {
				found = withKind(t, found, g)
			}
		})
		for _, g := range found {
			count, code := impl.CountAutomorphisms(g)
			if code != impl.ErrNone || count < 1 || renumberings%count != 0 {
				t.Fatalf("CountAutomorphisms(%v) = %d, %d", g, count, code)
			}
			left -= renumberings / count
		}
		if len(found) != kinds || left != 0 {
			t.Errorf("%d vertices: %d kinds of graphs, of which %d graphs are missing", n, len(found), left)
		}
	}
}

// withKind puts a graph behind others if it is isomorphic to none of them.
func withKind(t *testing.T, found []impl.Graph, g impl.Graph) []impl.Graph {
	t.Helper()
	for _, h := range found {
		same, code := impl.AreIsomorphic(h, g)
		if code != impl.ErrNone {
			t.Fatalf("AreIsomorphic(%v, %v): code %d", h, g, code)
		}
		if same {
			return found
		}
	}
	return append(found, g)
}

// Promise 12: graphs have colourings exactly if their oddness is 0, and isomorphic graphs have as many colourings and matchings. These
// are numbers that differ from graph to graph.
func TestPromise12IsomorphicGraphs(t *testing.T) {
	draw := rand.New(rand.NewSource(36))
	numbers := map[[2]int64]int{}
	for _, g := range connectedGraphs(t) {
		h, _ := impl.RenumberGraph(g, drawnRenumbering(draw, g.Size))
		if same, code := impl.AreIsomorphic(g, h); !same || code != impl.ErrNone {
			t.Fatalf("AreIsomorphic(%v, %v) = %v, %d", g, h, same, code)
		}
		mine, others := coloursAndMatchings(t, g), coloursAndMatchings(t, h)
		if mine != others {
			t.Fatalf("%v has %v colourings and matchings, %v has %v", g, mine, h, others)
		}
		if want := [2]int64{refCount(g), int64(len(refMatchings(g)))}; mine != want {
			t.Fatalf("%v has %v colourings and matchings, not %v", g, mine, want)
		}
		numbers[mine]++
	}
	if len(numbers) < 30 {
		t.Error("graphs by their numbers of colourings and matchings:", numbers)
	}
}

// Promise 12: pairs of drawn graphs that are told to be isomorphic have as many colourings and matchings.
func TestPromise12DrawnPairs(t *testing.T) {
	same := 0
	for i, graphs := 0, drawnGraphs(40); i < len(graphs); i++ {
		for _, h := range graphs[:i] {
			yes, _ := impl.AreIsomorphic(graphs[i], h)
			if !yes {
				continue
			}
			same++
			if mine, others := coloursAndMatchings(t, graphs[i]), coloursAndMatchings(t, h); mine != others {
				t.Fatalf("%v has %v colourings and matchings, %v has %v", graphs[i], mine, h, others)
			}
		}
	}
	if same < 500 {
		t.Error("pairs that are isomorphic:", same)
	}
}

// coloursAndMatchings returns how many colourings and matchings a graph has, and looks whether its oddness agrees with that.
func coloursAndMatchings(t *testing.T, g impl.Graph) [2]int64 {
	t.Helper()
	colourings, a := impl.CountColourings(g)
	matchings, b := impl.CountMatchings(g)
	has, c := impl.HasColouring(g)
	odd, code := impl.OddnessOf(g)
	if a != impl.ErrNone || b != impl.ErrNone || c != impl.ErrNone || (code == impl.ErrNone) != (matchings > 0) {
		t.Fatalf("%v: codes %d, %d, %d, %d", g, a, b, c, code)
	}
	if has != (colourings > 0) || has != (code == impl.ErrNone && odd == 0) {
		t.Fatalf("%v: %d colourings, HasColouring = %v, OddnessOf = %d, %d", g, colourings, has, odd, code)
	}
	return [2]int64{colourings, matchings}
}

// Cycle types have all numbers in them, and do not depend on the names of the numbers, or on the direction.
func TestCycleTypesOfDrawnRenumberings(t *testing.T) {
	draw := rand.New(rand.NewSource(37))
	for n := int64(1); n <= 20; n++ {
		for range 200 {
			p, q := drawnRenumbering(draw, n), drawnRenumbering(draw, n)
			want := refCycleType(p)
			for _, list := range [][]int64{p, inverse(p), composed(composed(inverse(q), p), q)} {
				if lengths, code := impl.CycleTypeOf(list); !slices.Equal(lengths, want) || code != impl.ErrNone {
					t.Fatalf("CycleTypeOf(%v) = %v, %d, not %v", list, lengths, code, want)
				}
			}
		}
	}
	for n := int64(1); n <= 6; n++ {
		eachRenumbering(n, func(list []int64) {
			if lengths, code := impl.CycleTypeOf(list); !slices.Equal(lengths, refCycleType(list)) || code != impl.ErrNone {
				t.Fatalf("CycleTypeOf(%v) = %v, %d, not %v", list, lengths, code, refCycleType(list))
			}
		})
	}
}

// The cycle type of an automorphism tells how many vertices it keeps. All automorphisms together keep as many as there are orbits for
// each of them.
func TestKeptVerticesTellOrbits(t *testing.T) {
	for _, g := range connectedGraphs(t) {
		lists, code := impl.AutomorphismsOf(g)
		if code != impl.ErrNone {
			continue
		}
		kept := 0
		for _, list := range lists {
			lengths, _ := impl.CycleTypeOf(list)
			for _, length := range lengths {
				if length == 1 {
					kept++
				}
			}
		}
		if orbits, _ := impl.VertexOrbits(g); kept != len(orbits)*len(lists) {
			t.Fatalf("%v: %d automorphisms keep %d vertices, the orbits are %v", g, len(lists), kept, orbits)
		}
	}
}

// Calls at the same time, and one after the other, return the same.
func TestSymmetryAtTheSameTime(t *testing.T) {
	var callers sync.WaitGroup
	for _, g := range connectedGraphs(t) {
		callers.Go(func() {
			list := turnedList(g.Size)
			want := listsOfSymmetry(g, list)
			count, _ := impl.CountAutomorphisms(g)
			for range 3 {
				if again := listsOfSymmetry(g, list); !sameParts(again, want) {
					t.Errorf("%v: %v, then %v", g, want, again)
				}
				if again, _ := impl.CountAutomorphisms(g); again != count {
					t.Errorf("CountAutomorphisms(%v) = %d, then %d", g, count, again)
				}
			}
		})
	}
	callers.Wait()
}

// turnedList returns the renumbering that leads each vertex to the next one, and the last one to the first one.
func turnedList(n int64) []int64 {
	return append(numbersUpTo(int(n))[1:], 0)
}
