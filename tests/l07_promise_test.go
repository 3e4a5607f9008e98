package tests

import (
	"math/rand"
	"slices"
	"sync"
	"testing"

	"loop.example/g01329/impl"
)

// Promise 7: even sets are sums of their cycles.
func TestPromise7EvenSetsAreSumsOfTheirCycles(t *testing.T) {
	draw := rand.New(rand.NewSource(17))
	several := 0
	for _, g := range graphsWithFlows(t) {
		at := refEdgesAt(g)
		for range 20 {
			set := drawnEvenSet(draw, g)
			if even, code := impl.IsEvenSet(g, set); !even || code != impl.ErrNone || !refIsEven(at, setOf(set)) {
				t.Fatalf("IsEvenSet(%v, %v) = %v, %d", g, set, even, code)
			}
			cycles, code := impl.CyclesOfSet(g, set)
			if code != impl.ErrNone || !sameParts(cycles, listsOfSets(refCyclesOf(at, setOf(set)))) {
				t.Fatalf("CyclesOfSet(%v, %v) = %v, %d", g, set, cycles, code)
			}
			if len(cycles) > 1 {
				several++
			}
			if sum := sumOfAll(t, g, cycles); !slices.Equal(sum, set) {
				t.Fatalf("%v: the cycles %v of %v have the sum %v", g, cycles, set, sum)
			}
			if one, code := impl.IsCycle(g, set); one != (len(cycles) == 1) || code != impl.ErrNone {
				t.Fatalf("IsCycle(%v, %v) = %v, %d", g, set, one, code)
			}
		}
	}
	if several < 100 {
		t.Error("even sets of several cycles:", several)
	}
}

// sumOfAll returns the sum of sets that are cycles.
func sumOfAll(t *testing.T, g impl.Graph, cycles [][]int64) []int64 {
	t.Helper()
	var sum []int64
	for _, cycle := range cycles {
		if one, code := impl.IsCycle(g, cycle); !one || code != impl.ErrNone {
			t.Fatalf("IsCycle(%v, %v) = %v, %d", g, cycle, one, code)
		}
		made, code := impl.SumOfSets(g, sum, cycle)
		if code != impl.ErrNone || setOf(made) != setOf(sum)^setOf(cycle) || len(made) != len(sum)+len(cycle) {
			t.Fatalf("SumOfSets(%v, %v, %v) = %v, %d", g, sum, cycle, made, code)
		}
		sum = made
	}
	return sum
}

// Sums of even sets are even. A sum with an edge more is not.
func TestSumsOfEvenSets(t *testing.T) {
	draw := rand.New(rand.NewSource(18))
	for _, g := range graphsWithFlows(t) {
		for range 10 {
			a, b := drawnEvenSet(draw, g), drawnEvenSet(draw, g)
			sum, code := impl.SumOfSets(g, a, b)
			if code != impl.ErrNone || !slices.Equal(sum, listOf(setOf(a)^setOf(b))) {
				t.Fatalf("SumOfSets(%v, %v, %v) = %v, %d", g, a, b, sum, code)
			}
			if even, code := impl.IsEvenSet(g, sum); !even || code != impl.ErrNone {
				t.Fatalf("IsEvenSet(%v, %v) = %v, %d", g, sum, even, code)
			}
			edge := []int64{draw.Int63n(int64(len(g.Edges)))}
			changed, _ := impl.SumOfSets(g, sum, edge)
			if even, code := impl.IsEvenSet(g, changed); even || code != impl.ErrNone {
				t.Fatalf("IsEvenSet(%v, %v) = %v, %d", g, changed, even, code)
			}
		}
	}
}

// Drawn sets of edges, even ones and others.
func TestDrawnSetsOfEdges(t *testing.T) {
	draw := rand.New(rand.NewSource(19))
	for _, g := range graphsWithFlows(t) {
		at := refEdgesAt(g)
		for _, set := range someSets(draw, len(g.Edges), 30) {
			even, a := impl.IsEvenSet(g, set)
			one, b := impl.IsCycle(g, set)
			_, code := impl.CyclesOfSet(g, set)
			if even != refIsEven(at, setOf(set)) || one != (len(set) > 0 && refIsCycle(at, setOf(set))) || a != impl.ErrNone || b != impl.ErrNone {
				t.Fatalf("%v, %v: %v, %d, %v, %d", g, set, even, a, one, b)
			}
			if (code == impl.ErrNone) != even || code != impl.ErrNone && code != impl.ErrState {
				t.Fatalf("CyclesOfSet(%v, %v): code %d", g, set, code)
			}
		}
	}
}

// All cycles are those among all sets of edges, in order, and their sums are all even sets.
func TestAllCyclesAgainstAllSets(t *testing.T) {
	for _, g := range graphsWithFlows(t) {
		if g.Size > impl.MaxCycled {
			continue
		}
		cycles, code := impl.AllCycles(g)
		if code != impl.ErrNone || !sameParts(cycles, listsOfSets(refAllCycles(g))) {
			t.Fatalf("AllCycles(%v) = %v, %d", g, cycles, code)
		}
		sums := []uint32{0}
		for _, cycle := range cycles {
			if !slices.Contains(sums, setOf(cycle)) {
				for _, sum := range sums {
					sums = append(sums, sum^setOf(cycle))
				}
			}
		}
		if d, _ := impl.FlowDimension(g); len(sums) != 1<<d {
			t.Fatalf("%v: the cycles %v have %d sums", g, cycles, len(sums))
		}
	}
}

// Promise 16: covers of colourings are double covers, those of normal colourings and of others, and what flows of
// pairs are there for.
func TestPromise16CoversOfColourings(t *testing.T) {
	without := 0
	for _, g := range graphsWithFlows(t) {
		pairs, code := impl.CountPairFlows(g)
		has := isColourable(g)
		if code == impl.ErrNone && (pairs > 0) != has {
			t.Fatalf("%v has %d flows of pairs; has a colouring: %v", g, pairs, has)
		}
		if !has {
			without++
			continue
		}
		least := first(t, g)
		colourings, code := impl.NormalColourings(g)
		if code != impl.ErrNone {
			colourings = [][]int64{least}
		}
		for _, c := range colourings[:min(10, len(colourings))] {
			for _, name := range renamingsOfColours() {
				checkCover(t, g, renamedBy(c, name))
			}
		}
	}
	if without < 5 {
		t.Error("graphs without colourings:", without)
	}
}

// checkCover looks at the cover of a colouring, and at what it is without one of its cycles.
func checkCover(t *testing.T, g impl.Graph, c []int64) {
	t.Helper()
	cover, code := impl.CoverOfColouring(g, c)
	var want [][]int64
	at := refEdgesAt(g)
	for _, pair := range [][2]int64{{0, 1}, {0, 2}, {1, 2}} {
		set := setOfColours(c, pair[0], pair[1])
		want = append(want, listsOfSets(refCyclesOf(at, setOf(set)))...)
	}
	if code != impl.ErrNone || !sameParts(cover, want) {
		t.Fatalf("CoverOfColouring(%v, %v) = %v, %d", g, c, cover, code)
	}
	if yes, code := impl.IsDoubleCover(g, cover); !yes || code != impl.ErrNone {
		t.Fatalf("IsDoubleCover(%v, %v) = %v, %d", g, cover, yes, code)
	}
	i := len(cover) / 2
	if yes, code := impl.IsDoubleCover(g, slices.Delete(slices.Clone(cover), i, i+1)); yes || code != impl.ErrNone {
		t.Fatalf("IsDoubleCover(%v, %v without %d) = %v, %d", g, cover, i, yes, code)
	}
	for k := range int64(4) {
		turns := make([]int64, len(cover))
		for i := range turns {
			turns[i] = (c[i%len(c)] + k*int64(i)) / 2 % 2
		}
		if yes, code := impl.IsOrientedBy(g, cover, turns); yes != refIsOriented(g, cover, turns) || code != impl.ErrNone {
			t.Fatalf("IsOrientedBy(%v, %v, %v) = %v, %d", g, cover, turns, yes, code)
		}
	}
}

// rotationsOf returns the rotations with 0 alone and with 1 alone, all of small graphs, and drawn ones.
func rotationsOf(draw *rand.Rand, g impl.Graph) [][]int64 {
	n := int(g.Size)
	rotations := [][]int64{make([]int64, n), slices.Repeat([]int64{1}, n)}
	if n <= 6 {
		allValues(n, 0, 1, func(rotation []int64) { rotations = append(rotations, slices.Clone(rotation)) })
	}
	for range 15 {
		rotations = append(rotations, drawnRotation(draw, g.Size))
	}
	return rotations
}

// Promise 7: faces have each edge twice. Those of graphs of all kinds are as they are to be.
func TestPromise7FacesHaveEachEdgeTwice(t *testing.T) {
	draw := rand.New(rand.NewSource(20))
	twice := 0
	for _, g := range graphsWithFlows(t) {
		for _, rotation := range rotationsOf(draw, g) {
			faces, code := impl.FacesOf(g, rotation)
			if code != impl.ErrNone {
				t.Fatalf("FacesOf(%v, %v): code %d", g, rotation, code)
			}
			counts := make([]int, len(g.Edges))
			for _, face := range faces {
				for i, e := range face {
					counts[e]++
					if slices.Contains(face[:i], e) {
						twice++
					}
				}
			}
			if slices.ContainsFunc(counts, func(count int) bool { return count != 2 }) {
				t.Fatalf("FacesOf(%v, %v) = %v", g, rotation, faces)
			}
			checkFaces(t, g, rotation, faces)
			checkGenus(t, g, rotation, len(faces))
		}
	}
	if twice < 100 {
		t.Error("edges that stand twice in a face:", twice)
	}
}

// checkGenus looks at the genus of a rotation, and at that of the rotation that has 1 for 0 and 0 for 1.
func checkGenus(t *testing.T, g impl.Graph, rotation []int64, faces int) {
	t.Helper()
	other := make([]int64, len(rotation))
	for v, x := range rotation {
		other[v] = 1 - x
	}
	genus, a := impl.GenusOfRotation(g, rotation)
	back, b := impl.GenusOfRotation(g, other)
	if len(refSides(g, nil)) > 1 {
		if genus != 0 || back != 0 || a != impl.ErrState || b != impl.ErrState {
			t.Fatalf("GenusOfRotation(%v, %v) = %d, %d, %d, %d", g, rotation, genus, a, back, b)
		}
		return
	}
	want := refGenus(g, listsOfSets(refEdgesAt(g)), rotation)
	if genus != want || back != want || a != impl.ErrNone || b != impl.ErrNone || 2-2*genus != g.Size-int64(len(g.Edges))+int64(faces) {
		t.Fatalf("GenusOfRotation(%v, %v) = %d, %d, %d, %d, not %d", g, rotation, genus, a, back, b, want)
	}
}

func TestLeastGeneraAgainstAllRotations(t *testing.T) {
	least := map[int64]int{}
	for i, g := range graphsWithFlows(t) {
		if g.Size > impl.MaxTurned || g.Size == impl.MaxTurned && i%2 == 0 || len(refSides(g, nil)) > 1 {
			continue
		}
		want := refLeastGenus(g)
		if genus, code := impl.LeastGenus(g); genus != want || code != impl.ErrNone {
			t.Fatalf("LeastGenus(%v) = %d, %d, not %d", g, genus, code, want)
		}
		least[want]++
	}
	if least[0] == 0 || least[1] == 0 {
		t.Error("graphs by their least genera:", least)
	}
}

// coverOfFaces returns the faces as cycles, and how they are gone around, if they are cycles.
func coverOfFaces(g impl.Graph, rotation []int64, faces [][]int64) ([][]int64, []int64, bool) {
	at := refEdgesAt(g)
	gone := map[step]bool{}
	var cycles [][]int64
	var turns []int64
	for _, face := range faces {
		cycle := slices.Clone(face)
		slices.Sort(cycle)
		if len(slices.Compact(slices.Clone(cycle))) != len(cycle) || !refIsCycle(at, setOf(cycle)) {
			return nil, nil, false
		}
		s := step{face[0], g.Edges[face[0]][1]}
		if gone[s] {
			s.to = g.Edges[face[0]][0]
		}
		for range face {
			gone[s] = true
			if s.edge == cycle[0] && s.to == g.Edges[s.edge][1] {
				turns = append(turns, 0)
			} else if s.edge == cycle[0] {
				turns = append(turns, 1)
			}
			s = refBehind(g, rotation, s)
		}
		cycles = append(cycles, cycle)
	}
	return cycles, turns, true
}

// Faces that are cycles are a double cover, oriented as they are gone along or all of them the other way, but not if just one
// is turned: each edge of it is in another one too.
func TestFacesAreOrientedDoubleCovers(t *testing.T) {
	draw := rand.New(rand.NewSource(21))
	found := 0
	for _, g := range graphsWithFlows(t) {
		for _, rotation := range rotationsOf(draw, g) {
			faces, _ := impl.FacesOf(g, rotation)
			cycles, turns, ok := coverOfFaces(g, rotation, faces)
			if !ok {
				continue
			}
			found++
			if yes, code := impl.IsDoubleCover(g, cycles); !yes || code != impl.ErrNone {
				t.Fatalf("IsDoubleCover(%v, %v) = %v, %d", g, cycles, yes, code)
			}
			checkOriented(t, g, cycles, turns, true)
			back := slices.Clone(turns)
			for i := range turns {
				back[i] = 1 - turns[i]
				changed := slices.Clone(turns)
				changed[i] = back[i]
				checkOriented(t, g, cycles, changed, false)
			}
			checkOriented(t, g, cycles, back, true)
		}
	}
	if found < 30 {
		t.Error("double covers of faces:", found)
	}
}

func checkOriented(t *testing.T, g impl.Graph, cycles [][]int64, turns []int64, want bool) {
	t.Helper()
	yes, code := impl.IsOrientedBy(g, cycles, turns)
	if yes != want || refIsOriented(g, cycles, turns) != want || code != impl.ErrNone {
		t.Fatalf("IsOrientedBy(%v, %v, %v) = %v, %d", g, cycles, turns, yes, code)
	}
}

// Calls at the same time, and one after the other, return the same.
func TestCoversAtTheSameTime(t *testing.T) {
	graphs := goodGraphs(t)
	var callers sync.WaitGroup
	for _, g := range graphs {
		callers.Go(func() {
			rotation := make([]int64, g.Size)
			faces, _ := impl.FacesOf(g, rotation)
			cycles, code := impl.AllCycles(g)
			for range 3 {
				again, _ := impl.FacesOf(g, rotation)
				all, other := impl.AllCycles(g)
				if !sameParts(again, faces) || !sameParts(all, cycles) || other != code {
					t.Errorf("%v: %v, %v, %d", g, again, all, other)
				}
			}
		})
	}
	callers.Wait()
}
