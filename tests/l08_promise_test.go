package tests

import (
	"math/rand"
	"slices"
	"sync"
	"testing"

	"loop.example/g01329/impl"
)

// graphsUpTo returns graphs of all kinds with at most n vertices: with names and without, with equal edges and bridges, with
// colourings and without, connected and of several parts, whose vertices may come in turn.
func graphsUpTo(t *testing.T, n int64) []impl.Graph {
	t.Helper()
	least, theta, k4 := parsed(t, leastBridge), named(t, "theta"), named(t, "k4")
	graphs := append(graphsWithFlows(t), beside(t, least, least), beside(t, least, k4), beside(t, k4, named(t, "prism")), beside(t, named(t, "k33"), k4),
		beside(t, theta, named(t, "cube")), beside(t, parsed(t, rowOfBridges), theta), beside(t, parsed(t, threeBridges), theta), beside(t, theta, named(t, "petersen")),
		thetas(t, 4), thetas(t, 5), thetas(t, 6), parsed(t, lessThanOddness))
	graphs = slices.DeleteFunc(graphs, func(g impl.Graph) bool { return g.Size > n })
	for _, g := range graphs {
		if g.Size >= 8 {
			graphs = append(graphs, shuffled(t, g))
		}
	}
	return graphs
}

// shuffled returns a graph in which the vertices of the first and the second half come in turn.
func shuffled(t *testing.T, g impl.Graph) impl.Graph {
	t.Helper()
	p := make([]int64, g.Size)
	for v := range g.Size {
		p[v] = v/2 + v%2*(g.Size/2)
	}
	made, code := impl.RenumberGraph(g, p)
	if code != impl.ErrNone {
		t.Fatalf("RenumberGraph(%v, %v): code %d", g, p, code)
	}
	return made
}

// Promise 8: graphs have colourings exactly if their resistance is 0. Weak sets are the first ones, and resistances their sizes.
func TestPromise8ResistancesOfGraphsWithColourings(t *testing.T) {
	told := map[int64]int{}
	for _, g := range graphsUpTo(t, impl.MaxWeak) {
		resistance, a := impl.ResistanceOf(g)
		weak, b := impl.WeakSet(g)
		if a != impl.ErrNone || b != impl.ErrNone || resistance != int64(len(weak)) || !slices.Equal(weak, refWeak(g)) {
			t.Fatalf("%v: ResistanceOf = %d, %d, WeakSet = %v, %d, not %v", g, resistance, a, weak, b, refWeak(g))
		}
		has, _ := impl.HasColouring(g)
		count, _ := impl.CountColourings(g)
		if has != isColourable(g) || (count > 0) != has || (resistance == 0) != has {
			t.Fatalf("%v: resistance %d, HasColouring = %v, CountColourings = %d", g, resistance, has, count)
		}
		told[resistance]++
	}
	for _, resistance := range []int64{0, 2, 3, 4} {
		if told[resistance] == 0 {
			t.Errorf("no graph has the resistance %d: %v", resistance, told)
		}
	}
}

// Promise 8: tests tell strong and total numbers. There are lists for the numbers that pass, and none for less.
func TestPromise8TestsTellStrongNumbers(t *testing.T) {
	told := map[int64]int{}
	for _, g := range graphsUpTo(t, impl.MaxSmall) {
		list, want := refStrong(g)
		number, code := impl.StrongNumber(g)
		if number != want || code != impl.ErrNone {
			t.Fatalf("StrongNumber(%v) = %d, %d, not %d", g, number, code, want)
		}
		strongTest().checkLeast(t, g, number, list)
		told[number]++
	}
	if told[3] == 0 || told[5] == 0 || told[9] == 0 || told[10] == 0 {
		t.Error("numbers of graphs by their strong numbers:", told)
	}
}

func TestPromise8TestsTellTotalNumbers(t *testing.T) {
	told := map[int64]int{}
	for _, g := range graphsUpTo(t, impl.MaxSmall) {
		list, want := refTotalNumber(g)
		number, code := impl.TotalNumber(g)
		if number != want || code != impl.ErrNone {
			t.Fatalf("TotalNumber(%v) = %d, %d, not %d", g, number, code, want)
		}
		totalTest().checkLeast(t, g, number, list)
		told[number]++
	}
	if told[4] == 0 || told[5] == 0 || len(told) != 2 {
		t.Error("numbers of graphs by their total numbers:", told)
	}
}

// A numbersTest tells whether a list is a colouring for k, as the program says, and written once more.
type numbersTest struct {
	greatest int64
	run      func(g impl.Graph, k int64, list []int64) (bool, int64)
	ref      func(g impl.Graph, k int64, list []int64) bool
}

func strongTest() numbersTest { return numbersTest{20, impl.IsStrong, refIsStrong} }
func totalTest() numbersTest  { return numbersTest{20, impl.IsTotal, refIsTotal} }

// circularTest is for circular colourings for k and d.
func circularTest(d int64) numbersTest {
	return numbersTest{impl.MaxCircle, func(g impl.Graph, k int64, list []int64) (bool, int64) {
		return impl.IsCircular(g, k, d, list)
	}, func(g impl.Graph, k int64, list []int64) bool {
		return refIsCircular(g, k, d, list)
	}}
}

// check compares for one list.
func (test numbersTest) check(t *testing.T, g impl.Graph, k int64, list []int64, want bool) {
	t.Helper()
	if yes, code := test.run(g, k, list); yes != want || test.ref(g, k, list) != want || code != impl.ErrNone {
		t.Fatalf("%v, %d, %v: %v, %d, not %v", g, k, list, yes, code, want)
	}
}

// checkChanges looks at a list that is a colouring for k, and at all lists that are made of it by a change of one number.
func (test numbersTest) checkChanges(t *testing.T, g impl.Graph, k int64, list []int64) {
	t.Helper()
	test.check(t, g, k, list, true)
	for i := range list {
		changed := slices.Clone(list)
		for x := int64(-1); x <= k; x++ {
			changed[i] = x
			test.check(t, g, k, changed, test.ref(g, k, changed))
		}
	}
}

// checkLeast looks at a list that is a colouring for k, and has the number k - 1: it is one for more too, but not for less.
func (test numbersTest) checkLeast(t *testing.T, g impl.Graph, k int64, list []int64) {
	t.Helper()
	test.check(t, g, k-1, list, false)
	for more := k; more <= test.greatest; more++ {
		test.check(t, g, more, list, true)
	}
	test.checkChanges(t, g, k, list)
	test.checkChanges(t, g, k+1, list)
}

// leastLeft gives each of n things the least number that those before it leave which it meets.
func leastLeft(n int, meets func(i int, j int) bool) []int64 {
	var list []int64
	for i := range n {
		x := int64(0)
		for slices.ContainsFunc(numbersUpTo(i), func(j int64) bool { return list[j] == x && meets(i, int(j)) }) {
			x++
		}
		list = append(list, x)
	}
	return list
}

// Colourings of graphs of more vertices than the limits have, made without a search.
func TestTestsOfGreatGraphs(t *testing.T) {
	for i, g := range graphsWithFlows(t) {
		if g.Size < 12 || i%2 == 0 && g.Size < impl.MaxVertices {
			continue
		}
		near := leastLeft(len(g.Edges), func(i int, j int) bool { return haveCommonVertex(g.Edges[i], g.Edges[j]) })
		circularTest(1).checkLeast(t, g, slices.Max(near)+1, near)
		twice := slices.Clone(near)
		for i := range twice {
			twice[i] *= 2
		}
		circularTest(2).checkChanges(t, g, slices.Max(twice)+2, twice)
		circularTest(2).checkChanges(t, g, slices.Max(twice)+3, twice)
		circularTest(2).check(t, g, slices.Max(twice)+1, twice, false)
		strong := leastLeft(len(g.Edges), func(i int, j int) bool { return refAreClose(g, g.Edges[i], g.Edges[j]) })
		strongTest().checkLeast(t, g, slices.Max(strong)+1, strong)
		// Behind the numbers of the edges there are some left for the vertices.
		vertices := leastLeft(int(g.Size), func(i int, j int) bool { return refBetween(g, int64(i), int64(j)) > 0 })
		for v := range vertices {
			vertices[v] += slices.Max(near) + 1
		}
		totalTest().checkLeast(t, g, slices.Max(vertices)+1, append(vertices, near...))
	}
}

// Promise 14: resistances are at most oddnesses.
func TestPromise14ResistancesAreAtMostOddnesses(t *testing.T) {
	equal, less := 0, 0
	for _, g := range graphsUpTo(t, impl.MaxWeak) {
		resistance, a := impl.ResistanceOf(g)
		odd, b := impl.OddnessOf(g)
		matchings := refMatchings(g)
		if a != impl.ErrNone || (b == impl.ErrNone) != (len(matchings) > 0) || resistance != int64(len(refWeak(g))) {
			t.Fatalf("%v: ResistanceOf = %d, %d, OddnessOf = %d, %d", g, resistance, a, odd, b)
		}
		if b != impl.ErrNone {
			continue
		}
		if _, want := refBest(g, matchings); odd != want || resistance > odd {
			t.Fatalf("%v: ResistanceOf = %d, OddnessOf = %d, not %d", g, resistance, odd, want)
		}
		if resistance == odd {
			equal++
		} else {
			less++
		}
	}
	if equal == 0 || less == 0 {
		t.Error("resistances that are oddnesses, and less:", equal, less)
	}
}

// Promise 14: circular colourings for 3 and 1 are there exactly for graphs with colourings. The least one is the first colouring.
func TestPromise14CircularColouringsOfThree(t *testing.T) {
	told := map[bool]int{}
	for _, g := range graphsUpTo(t, impl.MaxSmall) {
		has, _ := impl.HasColouring(g)
		if has != isColourable(g) {
			t.Fatalf("HasColouring(%v) = %v", g, has)
		}
		told[has]++
		list, code := impl.CircularOf(g, 3, 1)
		if !has {
			if code != impl.ErrNotFound || len(list) != 0 {
				t.Fatalf("CircularOf(%v, 3, 1) = %v, %d", g, list, code)
			}
			continue
		}
		yes, _ := impl.IsColouring(g, list)
		if code != impl.ErrNone || !yes || !slices.Equal(list, first(t, g)) {
			t.Fatalf("CircularOf(%v, 3, 1) = %v, %d, not %v", g, list, code, first(t, g))
		}
		circularTest(1).checkChanges(t, g, 3, list)
		changed := slices.Clone(list)
		for i := range changed {
			for changed[i] = 0; changed[i] < 3; changed[i]++ {
				yes, _ := impl.IsColouring(g, changed)
				circularTest(1).check(t, g, 3, changed, yes)
			}
			changed[i] = list[i]
		}
	}
	if told[true] == 0 || told[false] == 0 {
		t.Error("graphs with colourings and without:", told)
	}
}

// Found circular colourings are such. They are the least ones.
func TestCircularColouringsOfAllKinds(t *testing.T) {
	draw := rand.New(rand.NewSource(8))
	found, missing := 0, 0
	for _, g := range graphsUpTo(t, impl.MaxSmall) {
		eachCircle(impl.MaxCircle, func(k int64, d int64) {
			want := refCircular(g, k, d)
			checkCircular(t, g, k, d, want)
			if len(want) == 0 {
				missing++
				return
			}
			found++
			circularTest(d).check(t, g, k, want, true)
			// Turned around the circle it stays one.
			turn := draw.Int63n(k)
			for i := range want {
				want[i] = (want[i] + turn) % k
			}
			circularTest(d).check(t, g, k, want, true)
			circularTest(d).checkChanges(t, g, k, want)
		})
	}
	if found == 0 || missing == 0 {
		t.Error("circular colourings:", found, missing)
	}
}

// Calls at the same time, and one after the other, return the same.
func TestDefectsAtTheSameTime(t *testing.T) {
	var callers sync.WaitGroup
	for _, g := range graphsUpTo(t, impl.MaxSmall) {
		callers.Go(func() {
			weak, _ := impl.WeakSet(g)
			list, _ := impl.CircularOf(g, 4, 1)
			strong, _ := impl.StrongNumber(g)
			for range 3 {
				set, a := impl.WeakSet(g)
				again, b := impl.CircularOf(g, 4, 1)
				number, c := impl.StrongNumber(g)
				if !slices.Equal(set, weak) || !slices.Equal(again, list) || number != strong || a != impl.ErrNone || b != impl.ErrNone || c != impl.ErrNone {
					t.Errorf("%v: %v, %d, %v, %d, %d, %d", g, set, a, again, b, number, c)
				}
			}
		})
	}
	callers.Wait()
}
