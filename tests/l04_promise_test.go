package tests

import (
	"slices"
	"sync"
	"testing"

	"loop.example/g01329/impl"
)

// graphsWithMatchings returns graphs of all kinds, some without colourings, some with a number of matchings
// at the limit, and some without any.
func graphsWithMatchings(t *testing.T) []impl.Graph {
	t.Helper()
	graphs := goodGraphs(t)
	for _, text := range []string{sixtyMatchings, sixtyOneMatchings, doubledPetersen, coverOfFour, twoDoubles, tenMatchings,
		leastBridge, threeBridges, rowOfBridges} {
		graphs = append(graphs, parsed(t, text))
	}
	petersen := named(t, "petersen")
	return append(graphs, beside(t, petersen, petersen), beside(t, petersen, thetas(t, 2)),
		beside(t, named(t, "prism"), parsed(t, threeBridges)), beside(t, parsed(t, threeBridges), parsed(t, threeBridges)))
}

// Promise 4: matchings with the edges of a vertex are all matchings.
func TestPromise4MatchingsWithTheEdgesOfAVertex(t *testing.T) {
	for _, g := range append(graphsWithMatchings(t), thetas(t, 7)) {
		all, code := impl.CountMatchings(g)
		if code != impl.ErrNone || all != refCountMatchings(g) {
			t.Fatalf("CountMatchings(%v) = %d, %d, not %d", g, all, code, refCountMatchings(g))
		}
		for v := range g.Size {
			around, _ := impl.EdgesAt(g, v)
			sum := int64(0)
			for _, e := range around {
				count, code := impl.MatchingsWith(g, e)
				if code != impl.ErrNone {
					t.Fatalf("MatchingsWith(%v, %d): code %d", g, e, code)
				}
				sum += count
			}
			if sum != all {
				t.Fatalf("%v: of %d matchings %d are with the edges at %d", g, all, sum, v)
			}
		}
	}
}

// Promise 4: cover numbers are 3 exactly for graphs with colourings.
func TestPromise4CoverNumbersOfThree(t *testing.T) {
	told := map[int64]int{}
	for _, g := range graphsWithMatchings(t) {
		cover, code := impl.CoverNumber(g)
		has, _ := impl.HasColouring(g)
		if has != isColourable(g) {
			t.Fatalf("HasColouring(%v) = %v", g, has)
		}
		if code == impl.ErrNone && (cover == 3) != has {
			t.Fatalf("CoverNumber(%v) = %d, has a colouring: %v", g, cover, has)
		}
		matchings := refMatchings(g)
		want, wantCode := int64(0), int64(impl.ErrLimit)
		if len(matchings) <= impl.MaxMatchings {
			want, wantCode = refCover(g, matchings), impl.ErrNone
			if want == 0 {
				wantCode = impl.ErrNotFound
			}
		}
		if cover != want || code != wantCode {
			t.Fatalf("CoverNumber(%v) = %d, %d, not %d, %d", g, cover, code, want, wantCode)
		}
		told[want]++
	}
	for k := range int64(6) {
		if (told[k] > 0) != (k == 0 || k >= 3) {
			t.Errorf("cover number %d: %d graphs", k, told[k])
		}
	}
}

// Promise 12, for chapters 2 and 4: graphs have colourings exactly if their oddness is 0.
func TestPromise12OddnessOfGraphsWithColourings(t *testing.T) {
	told := map[int64]int{}
	for _, g := range graphsWithMatchings(t) {
		odd, code := impl.OddnessOf(g)
		has := isColourable(g)
		if got, _ := impl.HasColouring(g); got != has {
			t.Fatalf("HasColouring(%v) = %v", g, got)
		}
		best, bestCode := impl.BestMatching(g)
		matchings := refMatchings(g)
		if len(matchings) == 0 {
			if has || odd != 0 || code != impl.ErrNotFound || len(best) != 0 || bestCode != impl.ErrNotFound {
				t.Fatalf("%v: %d, %d, %v, %d", g, odd, code, best, bestCode)
			}
			continue
		}
		wantBest, want := refBest(g, matchings)
		if code != impl.ErrNone || odd != want || (odd == 0) != has {
			t.Fatalf("OddnessOf(%v) = %d, %d, has a colouring: %v", g, odd, code, has)
		}
		if bestCode != impl.ErrNone || !slices.Equal(best, wantBest) {
			t.Fatalf("BestMatching(%v) = %v, %d, not %v", g, best, bestCode, wantBest)
		}
		told[want]++
	}
	if told[0] == 0 || told[2] == 0 || told[4] == 0 || len(told) != 3 {
		t.Error("numbers of graphs by their oddness:", told)
	}
}

func TestMatchingsAgainstTakenEdges(t *testing.T) {
	for _, g := range graphsWithMatchings(t) {
		matchings := refMatchings(g)
		list, code := impl.MatchingsOf(g)
		if len(matchings) > impl.MaxMatchings {
			if code != impl.ErrLimit || len(list) != 0 {
				t.Fatalf("MatchingsOf(%v) = %d lists, %d", g, len(list), code)
			}
		} else if code != impl.ErrNone || !sameParts(list, matchings) {
			t.Fatalf("MatchingsOf(%v) = %v, %d, not %v", g, list, code, matchings)
		}
		checkHolds(t, g, matchings)
		for i, matching := range matchings {
			// The first and the last ones of long lists stand for all.
			if i < 60 || i >= len(matchings)-10 {
				checkMatching(t, g, matching)
			}
		}
	}
}

// checkHolds tells whether edges are in as many of the matchings as the program says.
func checkHolds(t *testing.T, g impl.Graph, matchings [][]int64) {
	t.Helper()
	var want []int64
	for e, count := range refHolds(g, matchings) {
		if got, code := impl.MatchingsWith(g, int64(e)); got != count || code != impl.ErrNone {
			t.Fatalf("MatchingsWith(%v, %d) = %d, %d, not %d", g, e, got, code, count)
		}
		if count > 0 && count < int64(len(matchings)) {
			want = append(want, int64(e))
		}
	}
	if free, code := impl.FreeEdges(g); code != impl.ErrNone || !slices.Equal(free, want) {
		t.Fatalf("FreeEdges(%v) = %v, %d, not %v", g, free, code, want)
	}
}

// checkMatching looks at the cycles that a matching leaves: they have all vertices, and if none is odd they
// make a colouring, the least edge of each one having the colour 1.
func checkMatching(t *testing.T, g impl.Graph, matching []int64) {
	t.Helper()
	if yes, code := impl.IsMatching(g, matching); !yes || code != impl.ErrNone {
		t.Fatalf("IsMatching(%v, %v) = %v, %d", g, matching, yes, code)
	}
	lengths, code := impl.CyclesLeft(g, matching)
	if code != impl.ErrNone || !slices.Equal(lengths, refLengths(g, matching)) {
		t.Fatalf("CyclesLeft(%v, %v) = %v, %d", g, matching, lengths, code)
	}
	sum := int64(0)
	for _, length := range lengths {
		sum += length
	}
	if sum != g.Size {
		t.Fatalf("CyclesLeft(%v, %v) = %v", g, matching, lengths)
	}
	c, code := impl.ColouringOf(g, matching)
	if refOdd(lengths) > 0 {
		if code != impl.ErrNotFound || len(c) != 0 {
			t.Fatalf("ColouringOf(%v, %v) = %v, %d", g, matching, c, code)
		}
		return
	}
	if code != impl.ErrNone || !refIsColouring(g, c) {
		t.Fatalf("ColouringOf(%v, %v) = %v, %d", g, matching, c, code)
	}
	for e, colour := range c {
		least := refChain(g, c, int64(e), max(3-colour, 1))[0]
		if (colour == 0) != slices.Contains(matching, int64(e)) || colour != 0 && c[least] != 1 {
			t.Fatalf("ColouringOf(%v, %v) = %v", g, matching, c)
		}
	}
}

// A matching that leaves no odd cycle is a colour of a colouring.
func TestColoursAreMatchings(t *testing.T) {
	for _, g := range colourable(t) {
		c := first(t, g)
		for colour := range int64(3) {
			var edges []int64
			for e, x := range c {
				if x == colour {
					edges = append(edges, int64(e))
				}
			}
			if yes, code := impl.IsMatching(g, edges); !yes || code != impl.ErrNone {
				t.Fatalf("IsMatching(%v, %v) = %v, %d", g, edges, yes, code)
			}
			made, code := impl.ColouringOf(g, edges)
			if yes, _ := impl.IsColouring(g, made); !yes || code != impl.ErrNone {
				t.Fatalf("ColouringOf(%v, %v) = %v, %d", g, edges, made, code)
			}
		}
	}
}

// Calls at the same time do not disturb each other, whatever counts for them.
func TestMatchingsCountedAtTheSameTime(t *testing.T) {
	graphs := graphsWithMatchings(t)
	var callers sync.WaitGroup
	for _, g := range graphs {
		callers.Go(func() {
			all, code := impl.CountMatchings(g)
			free, freeCode := impl.FreeEdges(g)
			for range 5 {
				again, a := impl.CountMatchings(g)
				list, b := impl.FreeEdges(g)
				if a != code || b != freeCode || again != all || !slices.Equal(list, free) {
					t.Errorf("%v: %d, %d, %v, %d", g, again, a, list, b)
				}
			}
		})
	}
	callers.Wait()
}
