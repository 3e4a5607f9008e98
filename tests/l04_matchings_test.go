package tests

import (
	"slices"
	"testing"

	"loop.example/g01329/impl"
)

// The texts of graphs with exactly MaxMatchings matchings and with one more.
const (
	sixtyMatchings    = "16:0-7,0-8,0-11,1-4,1-14,1-14,2-7,2-9,2-15,3-6,3-12,3-12,4-10,4-10,5-9,5-13,5-15,6-7,6-11,8-9,8-13,10-12,11-14,13-15"
	sixtyOneMatchings = "16:0-1,0-5,0-6,1-3,1-3,2-5,2-6,2-15,3-11,4-12,4-13,4-14,5-14,6-9,7-8,7-11,7-11,8-9,8-10,9-13,10-13,10-14,12-15,12-15"
)

// The texts of two graphs without colourings and without bridges, with the cover numbers 5 and 4, and of two
// graphs with colourings, with 5 and 10 matchings.
const (
	doubledPetersen = "12:0-6,0-9,0-11,1-5,1-6,1-10,2-4,2-9,2-10,3-8,3-8,3-10,4-6,4-7,5-7,5-9,7-11,8-11"
	coverOfFour     = "18:0-6,0-11,0-13,1-8,1-9,1-10,2-5,2-6,2-12,3-9,3-14,3-17,4-5,4-11,4-16,5-13,6-7,7-15,7-16,8-9,8-10,10-12,11-14,12-14,13-17,15-16,15-17"
	twoDoubles      = "4:0-1,0-1,0-2,1-3,2-3,2-3"
	tenMatchings    = "10:0-1,0-6,0-9,1-2,1-8,2-3,2-3,3-6,4-5,4-6,4-7,5-8,5-9,7-8,7-9"
)

func TestMaxMatchings(t *testing.T) {
	if impl.MaxMatchings != 60 {
		t.Error("MaxMatchings", impl.MaxMatchings)
	}
}

func TestIsMatching(t *testing.T) {
	for _, c := range []struct {
		name string
		list []int64
		want bool
	}{
		{"theta", []int64{0}, true}, {"theta", []int64{1}, true}, {"theta", []int64{2}, true},
		{"theta", nil, false}, {"theta", []int64{}, false}, {"theta", []int64{3}, false}, {"theta", []int64{-1}, false},
		{"theta", []int64{0, 1}, false}, {"theta", []int64{0, 0}, false},
		{"k4", []int64{0, 5}, true}, {"k4", []int64{1, 4}, true}, {"k4", []int64{2, 3}, true},
		{"k4", []int64{5, 0}, false}, {"k4", []int64{0, 0}, false}, {"k4", []int64{0, 1}, false}, {"k4", []int64{0, 4}, false},
		{"k4", []int64{0}, false}, {"k4", []int64{0, 5, 5}, false}, {"k4", []int64{0, 1, 5}, false}, {"k4", []int64{0, 0, 5}, false},
		{"k4", []int64{0, 6}, false}, {"k4", []int64{-1, 5}, false}, {"k4", []int64{0, 1<<63 - 1}, false}, {"k4", []int64{-1 << 63, 5}, false},
		{"k33", []int64{0, 4, 8}, true}, {"k33", []int64{2, 4, 6}, true}, {"k33", []int64{0, 5, 8}, false},
		{"petersen", []int64{2, 5, 7, 9, 11}, false}, {"petersen", []int64{0, 5, 9, 10, 12}, true}, {"petersen", []int64{0, 5, 9, 10}, false},
		{"bridge", []int64{0, 4, 7, 8, 12}, true}, {"bridge", []int64{0, 4, 8, 12}, false},
	} {
		yes, code := impl.IsMatching(named(t, c.name), c.list)
		if yes != c.want || code != impl.ErrNone {
			t.Errorf("IsMatching(%s, %v) = %v, %d", c.name, c.list, yes, code)
		}
	}
}

// Of all ascending lists just the matchings are matchings, and MatchingsOf lists them.
func TestIsMatchingOfAllSets(t *testing.T) {
	graphs := []impl.Graph{named(t, "theta"), named(t, "k4"), named(t, "k33"), named(t, "prism"), named(t, "cube"),
		thetas(t, 2), thetas(t, 3), cubicLadder(6), parsed(t, leastBridge), parsed(t, rowOfBridges), parsed(t, threeBridges)}
	for _, g := range graphs {
		var want [][]int64
		for set := range uint32(1) << len(g.Edges) {
			list := listOf(set)
			yes, code := impl.IsMatching(g, list)
			if code != impl.ErrNone || yes != refIsMatching(g, list) {
				t.Fatalf("IsMatching(%v, %v) = %v, %d", g, list, yes, code)
			}
			if yes {
				want = append(want, list)
			}
		}
		slices.SortFunc(want, func(a, b []int64) int { return slices.Compare(a, b) })
		list, code := impl.MatchingsOf(g)
		if code != impl.ErrNone || !sameParts(list, want) {
			t.Fatalf("MatchingsOf(%v) = %v, %d, not %v", g, list, code, want)
		}
	}
}

// matchingCase is what is known of a graph. Where it has no matching, the oddness is -1, and where an edge
// is in no matching, the cover number is 0.
type matchingCase struct {
	g                     impl.Graph
	count, oddness, cover int64
	best                  []int64
	free                  []int64
}

func matchingCases(t *testing.T) []matchingCase {
	t.Helper()
	petersen := named(t, "petersen")
	cases := []matchingCase{
		{parsed(t, twoDoubles), 5, 0, 3, []int64{0, 4}, nil},
		{named(t, "theta"), 3, 0, 3, []int64{0}, nil},
		{named(t, "k4"), 3, 0, 3, []int64{0, 5}, nil},
		{named(t, "k33"), 6, 0, 3, []int64{0, 4, 8}, nil},
		{named(t, "prism"), 4, 0, 3, []int64{0, 5, 6}, nil},
		{named(t, "cube"), 9, 0, 3, []int64{0, 5, 8, 11}, nil},
		{petersen, 6, 2, 5, []int64{0, 5, 9, 10, 12}, nil},
		{named(t, "tietze"), 8, 2, 4, []int64{0, 5, 9, 11, 14, 17}, nil},
		{named(t, "flower5"), 32, 2, 4, []int64{0, 3, 6, 9, 12, 20, 23, 25, 27, 29}, nil},
		{thetas(t, 3), 27, 0, 3, []int64{0, 3, 6}, nil},
		{beside(t, petersen, petersen), 36, 4, 5, []int64{0, 5, 9, 10, 12, 15, 20, 24, 25, 27}, nil},
		{beside(t, named(t, "theta"), petersen), 18, 2, 5, []int64{0, 3, 8, 12, 13, 15}, nil},
	}
	for i, c := range cases {
		cases[i].free = allEdges(c.g)
	}
	return append(cases,
		matchingCase{named(t, "bridge"), 4, 2, 0, []int64{0, 4, 7, 8, 12}, []int64{0, 1, 3, 4, 8, 9, 11, 12}},
		matchingCase{parsed(t, leastBridge), 4, 2, 0, []int64{0, 4, 7}, []int64{0, 1, 7, 8}},
		matchingCase{parsed(t, rowOfBridges), 4, 2, 0, []int64{0, 4, 7, 10}, []int64{0, 1, 10, 11}},
		matchingCase{parsed(t, threeBridges), 0, -1, 0, nil, nil},
		matchingCase{beside(t, named(t, "k4"), parsed(t, threeBridges)), 0, -1, 0, nil, nil},
		matchingCase{beside(t, named(t, "theta"), parsed(t, leastBridge)), 12, 2, 0, []int64{0, 3, 7, 10}, []int64{0, 1, 2, 3, 4, 10, 11}},
	)
}

func TestNumbersOfMatchings(t *testing.T) {
	for _, c := range matchingCases(t) {
		count, code := impl.CountMatchings(c.g)
		if count != c.count || code != impl.ErrNone {
			t.Errorf("CountMatchings(%v) = %d, %d", c.g, count, code)
		}
		list, code := impl.MatchingsOf(c.g)
		if int64(len(list)) != c.count || code != impl.ErrNone {
			t.Errorf("MatchingsOf(%v) = %v, %d", c.g, list, code)
		}
		free, code := impl.FreeEdges(c.g)
		if !slices.Equal(free, c.free) || code != impl.ErrNone {
			t.Errorf("FreeEdges(%v) = %v, %d", c.g, free, code)
		}
	}
}

func TestBestMatchingsAndCovers(t *testing.T) {
	for _, c := range matchingCases(t) {
		oddness, wantCode := c.oddness, int64(impl.ErrNone)
		if c.count == 0 {
			oddness, wantCode = 0, impl.ErrNotFound
		}
		if got, code := impl.OddnessOf(c.g); got != oddness || code != wantCode {
			t.Errorf("OddnessOf(%v) = %d, %d", c.g, got, code)
		}
		if best, code := impl.BestMatching(c.g); !slices.Equal(best, c.best) || code != wantCode {
			t.Errorf("BestMatching(%v) = %v, %d", c.g, best, code)
		}
		wantCode = impl.ErrNone
		if c.cover == 0 {
			wantCode = impl.ErrNotFound
		}
		if cover, code := impl.CoverNumber(c.g); cover != c.cover || code != wantCode {
			t.Errorf("CoverNumber(%v) = %d, %d", c.g, cover, code)
		}
	}
}

func TestMatchingsOf(t *testing.T) {
	for _, c := range []struct {
		g    impl.Graph
		want [][]int64
	}{
		{named(t, "theta"), [][]int64{{0}, {1}, {2}}},
		{named(t, "k4"), [][]int64{{0, 5}, {1, 4}, {2, 3}}},
		{named(t, "k33"), [][]int64{{0, 4, 8}, {0, 5, 7}, {1, 3, 8}, {1, 5, 6}, {2, 3, 7}, {2, 4, 6}}},
		{named(t, "prism"), [][]int64{{0, 5, 6}, {1, 4, 7}, {2, 3, 8}, {2, 4, 5}}},
		{parsed(t, twoDoubles), [][]int64{{0, 4}, {0, 5}, {1, 4}, {1, 5}, {2, 3}}},
		{thetas(t, 2), [][]int64{{0, 3}, {0, 4}, {0, 5}, {1, 3}, {1, 4}, {1, 5}, {2, 3}, {2, 4}, {2, 5}}},
		{parsed(t, leastBridge), [][]int64{{0, 4, 7}, {0, 4, 8}, {1, 4, 7}, {1, 4, 8}}},
		{parsed(t, threeBridges), nil},
	} {
		list, code := impl.MatchingsOf(c.g)
		if !sameParts(list, c.want) || code != impl.ErrNone {
			t.Errorf("MatchingsOf(%v) = %v, %d", c.g, list, code)
		}
	}
}

// A list of matchings may be MaxMatchings long, and not longer.
func TestLimitOfMatchings(t *testing.T) {
	prism, petersen := named(t, "prism"), named(t, "petersen")
	bridged := beside(t, named(t, "bridge"), parsed(t, twoDoubles))
	for _, c := range []struct {
		g            impl.Graph
		count, cover int64
		code         int64
	}{
		{parsed(t, sixtyMatchings), 60, 3, impl.ErrNone},
		{beside(t, petersen, parsed(t, tenMatchings)), 60, 5, impl.ErrNone},
		{beside(t, bridged, named(t, "theta")), 60, 0, impl.ErrNotFound},
		{parsed(t, sixtyOneMatchings), 61, 0, impl.ErrLimit},
		{beside(t, prism, beside(t, prism, prism)), 64, 0, impl.ErrLimit},
		// An edge is in no matching, but the limit is asked first.
		{beside(t, bridged, prism), 80, 0, impl.ErrLimit},
		{beside(t, parsed(t, leastBridge), beside(t, prism, prism)), 64, 0, impl.ErrLimit},
		{beside(t, petersen, thetas(t, 5)), 1458, 0, impl.ErrLimit},
		{thetas(t, 10), 59049, 0, impl.ErrLimit},
	} {
		count, code := impl.CountMatchings(c.g)
		if count != c.count || code != impl.ErrNone {
			t.Errorf("CountMatchings(%v) = %d, %d", c.g, count, code)
		}
		list, code := impl.MatchingsOf(c.g)
		if c.count <= impl.MaxMatchings && (code != impl.ErrNone || int64(len(list)) != c.count) {
			t.Errorf("MatchingsOf(%v) = %d lists, %d", c.g, len(list), code)
		}
		if c.count > impl.MaxMatchings && (code != impl.ErrLimit || len(list) != 0) {
			t.Errorf("MatchingsOf(%v) = %d lists, %d", c.g, len(list), code)
		}
		cover, code := impl.CoverNumber(c.g)
		if cover != c.cover || code != c.code {
			t.Errorf("CoverNumber(%v) = %d, %d", c.g, cover, code)
		}
	}
}

func TestMatchingsWith(t *testing.T) {
	for _, c := range []struct {
		g    impl.Graph
		want []int64
	}{
		{named(t, "theta"), []int64{1, 1, 1}},
		{named(t, "k4"), []int64{1, 1, 1, 1, 1, 1}},
		{named(t, "prism"), []int64{1, 1, 2, 1, 2, 2, 1, 1, 1}},
		{parsed(t, twoDoubles), []int64{2, 2, 1, 1, 2, 2}},
		{thetas(t, 2), []int64{3, 3, 3, 3, 3, 3}},
		{parsed(t, leastBridge), []int64{2, 2, 0, 0, 4, 0, 0, 2, 2}},
		{parsed(t, threeBridges), make([]int64, 15)},
		{named(t, "bridge"), []int64{2, 2, 0, 2, 2, 0, 0, 4, 2, 2, 0, 2, 2, 0, 0}},
		{named(t, "petersen"), slices.Repeat([]int64{2}, 15)},
	} {
		for e, want := range c.want {
			count, code := impl.MatchingsWith(c.g, int64(e))
			if count != want || code != impl.ErrNone {
				t.Errorf("MatchingsWith(%v, %d) = %d, %d", c.g, e, count, code)
			}
		}
	}
}

func TestCyclesLeft(t *testing.T) {
	for _, c := range []struct {
		g          impl.Graph
		list, want []int64
	}{
		// Two equal edges are a cycle.
		{named(t, "theta"), []int64{1}, []int64{2}},
		{named(t, "k4"), []int64{1, 4}, []int64{4}},
		{named(t, "prism"), []int64{2, 4, 5}, []int64{3, 3}},
		{named(t, "prism"), []int64{0, 5, 6}, []int64{6}},
		{named(t, "cube"), []int64{0, 5, 8, 11}, []int64{4, 4}},
		{named(t, "petersen"), []int64{0, 5, 9, 10, 12}, []int64{5, 5}},
		{parsed(t, twoDoubles), []int64{2, 3}, []int64{2, 2}},
		{parsed(t, twoDoubles), []int64{0, 5}, []int64{4}},
		{parsed(t, rowOfBridges), []int64{0, 4, 7, 10}, []int64{2, 3, 3}},
		{thetas(t, 4), []int64{0, 4, 8, 9}, []int64{2, 2, 2, 2}},
		{thetas(t, 10), []int64{0, 4, 8, 9, 14, 15, 20, 21, 25, 29}, slices.Repeat([]int64{2}, 10)},
		{beside(t, named(t, "k4"), named(t, "theta")), []int64{0, 5, 6}, []int64{2, 4}},
		{beside(t, named(t, "petersen"), named(t, "theta")), []int64{0, 5, 9, 10, 12, 17}, []int64{2, 5, 5}},
		{named(t, "tietze"), []int64{0, 5, 9, 11, 14, 17}, []int64{5, 7}},
		{named(t, "flower5"), []int64{0, 3, 6, 9, 12, 20, 23, 25, 27, 29}, []int64{5, 15}},
	} {
		lengths, code := impl.CyclesLeft(c.g, c.list)
		if !slices.Equal(lengths, c.want) || code != impl.ErrNone {
			t.Errorf("CyclesLeft(%v, %v) = %v, %d", c.g, c.list, lengths, code)
		}
	}
}

func TestColouringOf(t *testing.T) {
	for _, c := range []struct {
		g          impl.Graph
		list, want []int64
	}{
		{named(t, "theta"), []int64{0}, []int64{0, 1, 2}},
		{named(t, "theta"), []int64{1}, []int64{1, 0, 2}},
		{named(t, "theta"), []int64{2}, []int64{1, 2, 0}},
		{named(t, "k4"), []int64{0, 5}, []int64{0, 1, 2, 2, 1, 0}},
		{named(t, "k4"), []int64{2, 3}, []int64{1, 2, 0, 0, 2, 1}},
		{named(t, "k33"), []int64{2, 4, 6}, []int64{1, 2, 0, 2, 0, 1, 0, 1, 2}},
		{named(t, "prism"), []int64{1, 4, 7}, []int64{1, 0, 2, 2, 0, 1, 1, 0, 2}},
		{parsed(t, twoDoubles), []int64{2, 3}, []int64{1, 2, 0, 0, 1, 2}},
		{parsed(t, twoDoubles), []int64{1, 4}, []int64{1, 0, 2, 2, 0, 1}},
		{beside(t, named(t, "k4"), named(t, "theta")), []int64{1, 4, 7}, []int64{1, 0, 2, 2, 0, 1, 1, 0, 2}},
		// Two cycles of four edges.
		{named(t, "cube"), []int64{0, 5, 8, 11}, []int64{0, 1, 2, 1, 2, 0, 2, 2, 0, 1, 1, 0}},
	} {
		made, code := impl.ColouringOf(c.g, c.list)
		if !slices.Equal(made, c.want) || code != impl.ErrNone {
			t.Errorf("ColouringOf(%v, %v) = %v, %d", c.g, c.list, made, code)
		}
	}
}

// A matching may leave odd cycles even where others leave none, and odd cycles may stand behind even ones.
func TestColouringOfWithOddCycles(t *testing.T) {
	prism := named(t, "prism")
	for _, c := range []struct {
		g    impl.Graph
		list []int64
	}{
		{prism, []int64{2, 4, 5}},
		{named(t, "petersen"), []int64{0, 5, 9, 10, 12}},
		{beside(t, named(t, "theta"), prism), []int64{0, 5, 7, 8}},
		{beside(t, prism, named(t, "theta")), []int64{2, 4, 5, 9}},
		{parsed(t, rowOfBridges), []int64{0, 4, 7, 10}},
		{named(t, "bridge"), []int64{0, 4, 7, 8, 12}},
	} {
		made, code := impl.ColouringOf(c.g, c.list)
		if len(made) != 0 || code != impl.ErrNotFound {
			t.Errorf("ColouringOf(%v, %v) = %v, %d", c.g, c.list, made, code)
		}
	}
}
