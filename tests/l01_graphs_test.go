package tests

import (
	"slices"
	"testing"

	"loop.example/g01329/impl"
)

func TestErrorCodesAndLimits(t *testing.T) {
	codes := []int64{impl.ErrNone, impl.ErrInvalid, impl.ErrRange, impl.ErrLimit, impl.ErrNotFound, impl.ErrState, impl.ErrSyntax}
	if !slices.Equal(codes, []int64{0, 1, 2, 3, 4, 5, 6}) {
		t.Errorf("codes are %v", codes)
	}
	if impl.MaxVertices != 20 {
		t.Errorf("MaxVertices is %d", impl.MaxVertices)
	}
}

func TestIsGraphOfGraphs(t *testing.T) {
	for _, g := range goodGraphs(t) {
		before := copyGraph(g)
		if !impl.IsGraph(g) {
			t.Errorf("IsGraph(%v) is false", g)
		}
		if !sameGraph(g, before) {
			t.Errorf("IsGraph changed %v to %v", before, g)
		}
	}
}

func TestIsGraphOfOthers(t *testing.T) {
	for _, bad := range badGraphs() {
		before := copyGraph(bad.g)
		if impl.IsGraph(bad.g) {
			t.Errorf("%s: IsGraph(%v) is true", bad.why, bad.g)
		}
		if !sameGraph(bad.g, before) {
			t.Errorf("%s: IsGraph changed %v to %v", bad.why, before, bad.g)
		}
	}
}

// Of all lists of six edges in order with four vertices, ten make graphs: the one of all pairs,
// three of two parts, and six with two pairs of equal edges.
func TestIsGraphOfAllListsOfFourVertices(t *testing.T) {
	pairs := []impl.Edge{{0, 1}, {0, 2}, {0, 3}, {1, 2}, {1, 3}, {2, 3}}
	count := 0
	var extend func(edges []impl.Edge, from int)
	extend = func(edges []impl.Edge, from int) {
		if len(edges) == 6 {
			if impl.IsGraph(impl.Graph{Size: 4, Edges: edges}) {
				count++
			}
			return
		}
		for i := from; i < len(pairs); i++ {
			extend(append(slices.Clone(edges), pairs[i]), i)
		}
	}
	extend(nil, 0)
	if count != 10 {
		t.Errorf("%d lists are graphs", count)
	}
}

func TestGraphOf(t *testing.T) {
	for _, c := range []struct {
		n     int64
		edges []impl.Edge
		want  []impl.Edge
	}{
		{2, []impl.Edge{{0, 1}, {0, 1}, {0, 1}}, []impl.Edge{{0, 1}, {0, 1}, {0, 1}}},
		{2, []impl.Edge{{1, 0}, {1, 0}, {1, 0}}, []impl.Edge{{0, 1}, {0, 1}, {0, 1}}},
		{4, []impl.Edge{{3, 2}, {2, 1}, {3, 1}, {3, 0}, {0, 2}, {1, 0}}, []impl.Edge{{0, 1}, {0, 2}, {0, 3}, {1, 2}, {1, 3}, {2, 3}}},
		{4, []impl.Edge{{3, 2}, {0, 3}, {1, 0}, {2, 3}, {2, 1}, {0, 1}}, []impl.Edge{{0, 1}, {0, 1}, {0, 3}, {1, 2}, {2, 3}, {2, 3}}},
		{20, slices.Clone(cubicRing(20).Edges), cubicRing(20).Edges},
	} {
		g, code := impl.GraphOf(c.n, c.edges)
		if code != impl.ErrNone || g.Size != c.n || !slices.Equal(g.Edges, c.want) {
			t.Errorf("GraphOf(%d, %v) = %v, %d", c.n, c.edges, g, code)
		}
	}
}

func TestGraphOfAnyOrder(t *testing.T) {
	for _, g := range goodGraphs(t) {
		var edges []impl.Edge
		for i, e := range g.Edges {
			if i%2 == 0 {
				e = impl.Edge{e[1], e[0]}
			}
			edges = append(edges, e)
		}
		slices.Reverse(edges)
		made, code := impl.GraphOf(g.Size, edges)
		if code != impl.ErrNone || !sameGraph(made, g) {
			t.Errorf("GraphOf(%d, %v) = %v, %d", g.Size, edges, made, code)
		}
	}
}

func TestGraphOfErrors(t *testing.T) {
	k4 := []impl.Edge{{0, 1}, {0, 2}, {0, 3}, {1, 2}, {1, 3}, {2, 3}}
	for _, c := range []struct {
		n     int64
		edges []impl.Edge
		want  int64
	}{
		{0, nil, impl.ErrRange},
		{4, nil, impl.ErrRange},
		{-2, k4[:3], impl.ErrRange},
		{-1 << 63, k4, impl.ErrRange},
		{1<<63 - 1, k4, impl.ErrRange},
		{1<<62 + 4, k4, impl.ErrRange},
		{1, []impl.Edge{{0, 0}}, impl.ErrRange},
		{3, []impl.Edge{{0, 1}, {0, 2}, {1, 2}, {0, 1}}, impl.ErrRange},
		{5, k4, impl.ErrRange},
		{21, cubicRing(20).Edges, impl.ErrRange},
		{22, cubicRing(22).Edges, impl.ErrRange},
		{4, k4[:5], impl.ErrRange},
		{4, append(slices.Clone(k4), impl.Edge{0, 1}), impl.ErrRange},
		{6, k4, impl.ErrRange},
		{2, []impl.Edge{{0, 0}, {0, 1}, {1, 1}}, impl.ErrRange},
		{2, []impl.Edge{{0, 1}, {0, 1}, {0, 2}}, impl.ErrRange},
		{2, []impl.Edge{{0, 1}, {0, 1}, {2, 0}}, impl.ErrRange},
		{2, []impl.Edge{{0, 1}, {0, 1}, {-1, 0}}, impl.ErrRange},
		{2, []impl.Edge{{0, 1}, {0, 1}, {0, -1}}, impl.ErrRange},
		{2, []impl.Edge{{0, 1}, {0, 1}, {1<<63 - 1, -1 << 63}}, impl.ErrRange},
		// An edge that is none comes before vertices that are not on three edges.
		{4, []impl.Edge{{0, 1}, {0, 1}, {0, 1}, {0, 2}, {0, 3}, {2, 4}}, impl.ErrRange},
		{4, []impl.Edge{{0, 1}, {0, 1}, {0, 1}, {0, 2}, {0, 3}, {2, 2}}, impl.ErrRange},
		{4, []impl.Edge{{0, 1}, {0, 1}, {0, 1}, {0, 2}, {2, 3}, {2, 3}}, impl.ErrState},
		{4, []impl.Edge{{0, 1}, {0, 1}, {0, 1}, {0, 1}, {0, 1}, {0, 1}}, impl.ErrState},
		{4, []impl.Edge{{0, 1}, {0, 2}, {1, 2}, {0, 1}, {0, 2}, {1, 2}}, impl.ErrState},
		{4, []impl.Edge{{1, 2}, {1, 3}, {2, 3}, {1, 2}, {1, 3}, {2, 3}}, impl.ErrState},
		{4, []impl.Edge{{0, 1}, {0, 1}, {0, 2}, {1, 2}, {2, 3}, {2, 3}}, impl.ErrState},
	} {
		g, code := impl.GraphOf(c.n, c.edges)
		if code != c.want || !isZeroGraph(g) {
			t.Errorf("GraphOf(%d, %v) = %v, %d, not %d", c.n, c.edges, g, code, c.want)
		}
	}
}

func TestGraphOfMemory(t *testing.T) {
	behind := []impl.Edge{{1, 0}, {0, 1}, {1, 0}, {8, 8}, {9, 9}}
	before := slices.Clone(behind)
	g, code := impl.GraphOf(2, behind[:3])
	if code != impl.ErrNone {
		t.Fatalf("GraphOf: code %d", code)
	}
	all := g.Edges[:cap(g.Edges)]
	for i := range all {
		all[i] = impl.Edge{7, 7}
	}
	if !slices.Equal(behind, before) {
		t.Errorf("GraphOf or its result changed the edges to %v", behind)
	}
}

func TestEdgesAt(t *testing.T) {
	for _, c := range []struct {
		name string
		v    int64
		want []int64
	}{
		{"theta", 0, []int64{0, 1, 2}},
		{"theta", 1, []int64{0, 1, 2}},
		{"k4", 0, []int64{0, 1, 2}},
		{"k4", 1, []int64{0, 3, 4}},
		{"k4", 2, []int64{1, 3, 5}},
		{"k4", 3, []int64{2, 4, 5}},
		{"k33", 3, []int64{0, 3, 6}},
		{"k33", 5, []int64{2, 5, 8}},
		{"flower5", 19, []int64{14, 21, 29}},
	} {
		list, code := impl.EdgesAt(named(t, c.name), c.v)
		if code != impl.ErrNone || !slices.Equal(list, c.want) {
			t.Errorf("EdgesAt(%s, %d) = %v, %d", c.name, c.v, list, code)
		}
	}
	for _, v := range []int64{-1, 4, 5, 1<<63 - 1, -1 << 63} {
		list, code := impl.EdgesAt(named(t, "k4"), v)
		if code != impl.ErrRange || len(list) != 0 {
			t.Errorf("EdgesAt(k4, %d) = %v, %d", v, list, code)
		}
	}
}

func TestOtherEnd(t *testing.T) {
	for _, c := range []struct {
		name           string
		e, v, w, wants int64
	}{
		{"theta", 0, 0, 1, impl.ErrNone},
		{"theta", 2, 1, 0, impl.ErrNone},
		{"k4", 0, 0, 1, impl.ErrNone},
		{"k4", 0, 1, 0, impl.ErrNone},
		{"k4", 5, 2, 3, impl.ErrNone},
		{"k4", 5, 3, 2, impl.ErrNone},
		{"flower5", 29, 19, 18, impl.ErrNone},
		{"flower5", 29, 18, 19, impl.ErrNone},
		{"k4", 5, 0, 0, impl.ErrState},
		{"k4", 0, 2, 0, impl.ErrState},
		{"k4", 0, 3, 0, impl.ErrState},
		{"flower5", 29, 0, 0, impl.ErrState},
		{"k4", 6, 0, 0, impl.ErrRange},
		{"k4", -1, 0, 0, impl.ErrRange},
		{"k4", 1<<63 - 1, 0, 0, impl.ErrRange},
		{"k4", -1 << 63, 0, 0, impl.ErrRange},
		{"k4", 0, 4, 0, impl.ErrRange},
		{"k4", 0, -1, 0, impl.ErrRange},
		{"k4", 0, 1<<63 - 1, 0, impl.ErrRange},
		{"k4", 0, -1 << 63, 0, impl.ErrRange},
		{"k4", 6, 4, 0, impl.ErrRange},
		{"theta", 3, 0, 0, impl.ErrRange},
		{"theta", 2, 2, 0, impl.ErrRange},
	} {
		w, code := impl.OtherEnd(named(t, c.name), c.e, c.v)
		if code != c.wants || w != c.w {
			t.Errorf("OtherEnd(%s, %d, %d) = %d, %d", c.name, c.e, c.v, w, code)
		}
	}
}

// sameParts compares lists of lists.
func sameParts(a [][]int64, b [][]int64) bool {
	return slices.EqualFunc(a, b, slices.Equal[[]int64])
}

func TestPartsOf(t *testing.T) {
	theta, k4 := named(t, "theta"), named(t, "k4")
	woven, code := impl.GraphOf(6, []impl.Edge{{1, 4}, {4, 1}, {1, 4}, {0, 2}, {0, 3}, {0, 5}, {2, 3}, {2, 5}, {3, 5}})
	if code != impl.ErrNone {
		t.Fatalf("GraphOf: code %d", code)
	}
	many := theta
	for range 9 {
		many = beside(t, many, theta)
	}
	for _, c := range []struct {
		g    impl.Graph
		want [][]int64
	}{
		{theta, [][]int64{{0, 1}}},
		{k4, [][]int64{{0, 1, 2, 3}}},
		{beside(t, theta, k4), [][]int64{{0, 1}, {2, 3, 4, 5}}},
		{beside(t, k4, theta), [][]int64{{0, 1, 2, 3}, {4, 5}}},
		{woven, [][]int64{{0, 2, 3, 5}, {1, 4}}},
		{named(t, "bridge"), [][]int64{{0, 1, 2, 3, 4, 5, 6, 7, 8, 9}}},
		{many, [][]int64{{0, 1}, {2, 3}, {4, 5}, {6, 7}, {8, 9}, {10, 11}, {12, 13}, {14, 15}, {16, 17}, {18, 19}}},
	} {
		parts, code := impl.PartsOf(c.g)
		if code != impl.ErrNone || !sameParts(parts, c.want) {
			t.Errorf("PartsOf(%v) = %v, %d", c.g, parts, code)
		}
		connected, code := impl.IsConnected(c.g)
		if code != impl.ErrNone || connected != (len(c.want) == 1) {
			t.Errorf("IsConnected(%v) = %v, %d", c.g, connected, code)
		}
	}
}

func TestPartsOfMemory(t *testing.T) {
	both := beside(t, named(t, "k4"), named(t, "k4"))
	parts, _ := impl.PartsOf(both)
	first := parts[0][:cap(parts[0])]
	for i := range first {
		first[i] = 99
	}
	if !slices.Equal(parts[1], []int64{4, 5, 6, 7}) {
		t.Errorf("parts share memory: %v", parts)
	}
}

func TestDistanceOf(t *testing.T) {
	apart := beside(t, named(t, "theta"), named(t, "k4"))
	for _, c := range []struct {
		g           impl.Graph
		a, b, d, is int64
	}{
		{named(t, "theta"), 0, 0, 0, impl.ErrNone},
		{named(t, "theta"), 1, 1, 0, impl.ErrNone},
		{named(t, "theta"), 0, 1, 1, impl.ErrNone},
		{named(t, "theta"), 1, 0, 1, impl.ErrNone},
		{named(t, "cube"), 0, 7, 3, impl.ErrNone},
		{named(t, "cube"), 6, 1, 3, impl.ErrNone},
		{named(t, "cube"), 2, 7, 2, impl.ErrNone},
		{named(t, "petersen"), 0, 7, 2, impl.ErrNone},
		{named(t, "bridge"), 2, 7, 5, impl.ErrNone},
		{named(t, "bridge"), 4, 9, 1, impl.ErrNone},
		{apart, 0, 1, 1, impl.ErrNone},
		{apart, 5, 2, 1, impl.ErrNone},
		{apart, 5, 5, 0, impl.ErrNone},
		{apart, 0, 2, 0, impl.ErrNotFound},
		{apart, 5, 1, 0, impl.ErrNotFound},
		{apart, 0, 6, 0, impl.ErrRange},
		{apart, 6, 0, 0, impl.ErrRange},
		{apart, -1, 5, 0, impl.ErrRange},
		{apart, 5, -1, 0, impl.ErrRange},
		{apart, 6, 6, 0, impl.ErrRange},
		{apart, -1, -1, 0, impl.ErrRange},
		{apart, 1<<63 - 1, 0, 0, impl.ErrRange},
		{apart, 0, -1 << 63, 0, impl.ErrRange},
	} {
		d, code := impl.DistanceOf(c.g, c.a, c.b)
		if code != c.is || d != c.d {
			t.Errorf("DistanceOf(%v, %d, %d) = %d, %d", c.g, c.a, c.b, d, code)
		}
	}
}

func TestDiameterGirthAndKinds(t *testing.T) {
	for _, c := range []struct {
		name            string
		diameter, girth int64
		bipartite       bool
	}{
		{"theta", 1, 2, true},
		{"k4", 1, 3, false},
		{"k33", 2, 4, true},
		{"prism", 2, 3, false},
		{"cube", 3, 4, true},
		{"petersen", 2, 5, false},
		{"tietze", 3, 3, false},
		{"flower5", 4, 5, false},
		{"bridge", 5, 3, false},
	} {
		g := named(t, c.name)
		diameter, one := impl.DiameterOf(g)
		girth, two := impl.GirthOf(g)
		bipartite, three := impl.IsBipartite(g)
		if one != impl.ErrNone || two != impl.ErrNone || three != impl.ErrNone {
			t.Errorf("%s: codes %d, %d, %d", c.name, one, two, three)
		}
		if diameter != c.diameter || girth != c.girth || bipartite != c.bipartite {
			t.Errorf("%s: diameter %d, girth %d, bipartite %v", c.name, diameter, girth, bipartite)
		}
	}
}

func TestGraphsOfSeveralParts(t *testing.T) {
	theta, k4, k33, petersen := named(t, "theta"), named(t, "k4"), named(t, "k33"), named(t, "petersen")
	for _, c := range []struct {
		g         impl.Graph
		girth     int64
		bipartite bool
	}{
		{beside(t, theta, k4), 2, false},
		{beside(t, k4, theta), 2, false},
		{beside(t, theta, k33), 2, true},
		{beside(t, k33, k33), 4, true},
		{beside(t, petersen, k33), 4, false},
		{beside(t, k33, petersen), 4, false},
		{beside(t, petersen, petersen), 5, false},
		{beside(t, petersen, k4), 3, false},
	} {
		diameter, code := impl.DiameterOf(c.g)
		if code != impl.ErrState || diameter != 0 {
			t.Errorf("DiameterOf(%v) = %d, %d", c.g, diameter, code)
		}
		girth, one := impl.GirthOf(c.g)
		bipartite, two := impl.IsBipartite(c.g)
		if girth != c.girth || bipartite != c.bipartite || one != impl.ErrNone || two != impl.ErrNone {
			t.Errorf("%v: girth %d, %d, bipartite %v, %d", c.g, girth, one, bipartite, two)
		}
	}
}

// The Heawood graph has a girth that no graph with a name has.
func TestGirthSix(t *testing.T) {
	var edges []impl.Edge
	for i := range int64(14) {
		edges = append(edges, impl.Edge{i, (i + 1) % 14})
		if i%2 == 0 {
			edges = append(edges, impl.Edge{i, (i + 5) % 14})
		}
	}
	g, code := impl.GraphOf(14, edges)
	if code != impl.ErrNone {
		t.Fatalf("GraphOf: code %d", code)
	}
	girth, one := impl.GirthOf(g)
	diameter, two := impl.DiameterOf(g)
	bipartite, three := impl.IsBipartite(g)
	if girth != 6 || diameter != 3 || !bipartite || one != impl.ErrNone || two != impl.ErrNone || three != impl.ErrNone {
		t.Errorf("girth %d, diameter %d, bipartite %v", girth, diameter, bipartite)
	}
}

func TestRenumberGraph(t *testing.T) {
	k33 := named(t, "k33")
	for _, c := range []struct {
		p    []int64
		want string
	}{
		{[]int64{0, 1, 2, 3, 4, 5}, "6:0-3,0-4,0-5,1-3,1-4,1-5,2-3,2-4,2-5"},
		{[]int64{5, 4, 3, 2, 1, 0}, "6:0-3,0-4,0-5,1-3,1-4,1-5,2-3,2-4,2-5"},
		{[]int64{0, 3, 1, 2, 4, 5}, "6:0-2,0-4,0-5,1-2,1-4,1-5,2-3,3-4,3-5"},
		{[]int64{3, 4, 0, 1, 2, 5}, "6:0-1,0-2,0-5,1-3,1-4,2-3,2-4,3-5,4-5"},
	} {
		g, code := impl.RenumberGraph(k33, c.p)
		if text, _ := impl.GraphText(g); text != c.want || code != impl.ErrNone {
			t.Errorf("RenumberGraph(k33, %v) = %s, %d", c.p, text, code)
		}
	}
	// By the inverse of this list the graph would be another one.
	g, code := impl.RenumberGraph(cubicLadder(4), []int64{0, 2, 3, 1})
	if text, _ := impl.GraphText(g); text != "4:0-1,0-2,0-2,1-3,1-3,2-3" || code != impl.ErrNone {
		t.Errorf("RenumberGraph = %s, %d", text, code)
	}
	if g, code := impl.RenumberGraph(named(t, "theta"), []int64{1, 0}); !sameGraph(g, named(t, "theta")) || code != impl.ErrNone {
		t.Errorf("RenumberGraph(theta) = %v, %d", g, code)
	}
}

func TestRenumberGraphErrors(t *testing.T) {
	k4 := named(t, "k4")
	for _, p := range [][]int64{nil, {}, {0, 1, 2}, {0, 1, 2, 3, 4}, {0, 1, 2, 2}, {3, 3, 1, 0}, {0, 1, 2, 4}, {-1, 1, 2, 3},
		{1, 2, 3, 4}, {0, 0, 0, 0}, {0, 1, 2, 3, 3}, {0, 1, 2, 1<<63 - 1}, {-1 << 63, 1, 2, 3}} {
		g, code := impl.RenumberGraph(k4, p)
		if code != impl.ErrRange || !isZeroGraph(g) {
			t.Errorf("RenumberGraph(k4, %v) = %v, %d", p, g, code)
		}
	}
}

func TestPutBeside(t *testing.T) {
	theta, k4 := named(t, "theta"), named(t, "k4")
	for _, c := range []struct {
		g, h impl.Graph
		want string
	}{
		{theta, theta, "4:0-1,0-1,0-1,2-3,2-3,2-3"},
		{theta, k4, "6:0-1,0-1,0-1,2-3,2-4,2-5,3-4,3-5,4-5"},
		{k4, theta, "6:0-1,0-2,0-3,1-2,1-3,2-3,4-5,4-5,4-5"},
	} {
		g, code := impl.PutBeside(c.g, c.h)
		if text, _ := impl.GraphText(g); text != c.want || code != impl.ErrNone {
			t.Errorf("PutBeside = %s, %d", text, code)
		}
	}
	for _, c := range []struct{ a, b, want int64 }{
		{4, 16, impl.ErrNone}, {16, 4, impl.ErrNone}, {10, 10, impl.ErrNone}, {18, 2, impl.ErrNone}, {2, 18, impl.ErrNone},
		{20, 2, impl.ErrLimit}, {2, 20, impl.ErrLimit}, {10, 12, impl.ErrLimit}, {20, 20, impl.ErrLimit},
	} {
		g, code := impl.PutBeside(cubicLadder(c.a), cubicLadder(c.b))
		if code != c.want || code == impl.ErrNone && (!impl.IsGraph(g) || g.Size != 20) || code != impl.ErrNone && !isZeroGraph(g) {
			t.Errorf("PutBeside of Sizes %d and %d = %v, %d", c.a, c.b, g, code)
		}
	}
}

func TestPutBesideInvalid(t *testing.T) {
	for _, bad := range badGraphs() {
		// That one is not a graph comes before that both are too large.
		for _, good := range []impl.Graph{cubicLadder(2), cubicRing(20)} {
			if g, code := impl.PutBeside(bad.g, good); code != impl.ErrInvalid || !isZeroGraph(g) {
				t.Errorf("%s: PutBeside of it first = %v, %d", bad.why, g, code)
			}
			if g, code := impl.PutBeside(good, bad.g); code != impl.ErrInvalid || !isZeroGraph(g) {
				t.Errorf("%s: PutBeside of it second = %v, %d", bad.why, g, code)
			}
		}
	}
}

func TestResultsShareNoMemory(t *testing.T) {
	edges := make([]impl.Edge, 3, 12)
	copy(edges, []impl.Edge{{0, 1}, {0, 1}, {0, 1}})
	all := edges[:cap(edges)]
	before := slices.Clone(all)
	g, p := impl.Graph{Size: 2, Edges: edges}, []int64{0, 1}
	renumbered, _ := impl.RenumberGraph(g, p)
	doubled, _ := impl.PutBeside(g, g)
	for _, result := range []impl.Graph{renumbered, doubled} {
		list := result.Edges[:cap(result.Edges)]
		for i := range list {
			list[i] = impl.Edge{9, 9}
		}
	}
	if !slices.Equal(all, before) || !slices.Equal(p, []int64{0, 1}) {
		t.Errorf("arguments have become %v and %v", all, p)
	}
}

func TestNothingIsKept(t *testing.T) {
	for _, name := range names() {
		g := named(t, name)
		text, _ := impl.GraphText(g)
		for i := range g.Edges {
			g.Edges[i] = impl.Edge{9, 9}
		}
		if again, _ := impl.GraphText(named(t, name)); again != text {
			t.Errorf("%s has become %s", name, again)
		}
	}
}

func TestFunctionsLeaveGraphsAsTheyAre(t *testing.T) {
	for _, g := range goodGraphs(t) {
		edges := slices.Grow(slices.Clone(g.Edges), 8)
		all := edges[:cap(edges)]
		before := slices.Clone(all)
		for _, call := range graphCalls() {
			call.run(impl.Graph{Size: g.Size, Edges: edges}, 0)
		}
		if !slices.Equal(all, before) {
			t.Fatalf("%v has become %v", before, all)
		}
	}
}

// A graphCall calls a function with a graph, and with x for all numbers, and tells the code, and
// whether all other results are zero values.
type graphCall struct {
	name string
	run  func(g impl.Graph, x int64) (int64, bool)
}

func graphCalls() []graphCall {
	return []graphCall{
		{"EdgesAt", func(g impl.Graph, x int64) (int64, bool) {
			list, code := impl.EdgesAt(g, x)
			return code, len(list) == 0
		}},
		{"OtherEnd", func(g impl.Graph, x int64) (int64, bool) {
			v, code := impl.OtherEnd(g, x, x)
			return code, v == 0
		}},
		{"PartsOf", func(g impl.Graph, x int64) (int64, bool) {
			parts, code := impl.PartsOf(g)
			return code, len(parts) == 0
		}},
		{"IsConnected", func(g impl.Graph, x int64) (int64, bool) {
			yes, code := impl.IsConnected(g)
			return code, !yes
		}},
		{"DistanceOf", func(g impl.Graph, x int64) (int64, bool) {
			d, code := impl.DistanceOf(g, x, x)
			return code, d == 0
		}},
		{"DiameterOf", func(g impl.Graph, x int64) (int64, bool) {
			d, code := impl.DiameterOf(g)
			return code, d == 0
		}},
		{"GirthOf", func(g impl.Graph, x int64) (int64, bool) {
			d, code := impl.GirthOf(g)
			return code, d == 0
		}},
		{"IsBipartite", func(g impl.Graph, x int64) (int64, bool) {
			yes, code := impl.IsBipartite(g)
			return code, !yes
		}},
		{"RenumberGraph", func(g impl.Graph, x int64) (int64, bool) {
			made, code := impl.RenumberGraph(g, []int64{x})
			return code, isZeroGraph(made)
		}},
		{"GraphText", func(g impl.Graph, x int64) (int64, bool) {
			text, code := impl.GraphText(g)
			return code, text == ""
		}},
	}
}

func TestErrInvalidComesFirst(t *testing.T) {
	for _, bad := range badGraphs() {
		for _, call := range graphCalls() {
			for _, x := range []int64{0, -1, 20, 1<<63 - 1} {
				code, zero := call.run(bad.g, x)
				if code != impl.ErrInvalid || !zero {
					t.Errorf("%s: %s with %d: code %d, zero %v", bad.why, call.name, x, code, zero)
				}
			}
		}
	}
}
