package tests

import (
	"math/rand"
	"slices"
	"strconv"
	"strings"
	"testing"

	"loop.example/g01329/impl"
)

// textOf returns what the text of a graph is, without the program.
func textOf(g impl.Graph) string {
	var pairs []string
	for _, e := range g.Edges {
		pairs = append(pairs, strconv.FormatInt(e[0], 10)+"-"+strconv.FormatInt(e[1], 10))
	}
	return strconv.FormatInt(g.Size, 10) + ":" + strings.Join(pairs, ",")
}

// Promise 1: edges at vertices lead to other ends and back.
func TestPromise1EdgesLeadThereAndBack(t *testing.T) {
	for _, g := range goodGraphs(t) {
		var met int
		for v := range g.Size {
			list, code := impl.EdgesAt(g, v)
			if code != impl.ErrNone || len(list) != 3 || list[0] >= list[1] || list[1] >= list[2] {
				t.Fatalf("EdgesAt(%v, %d) = %v, %d", g, v, list, code)
			}
			for _, e := range list {
				met++
				checkThereAndBack(t, g, e, v)
			}
		}
		if met != 2*len(g.Edges) {
			t.Errorf("%v: %d edges at vertices", g, met)
		}
	}
}

func checkThereAndBack(t *testing.T, g impl.Graph, e int64, v int64) {
	t.Helper()
	w, code := impl.OtherEnd(g, e, v)
	if code != impl.ErrNone || w == v || g.Edges[e] != (impl.Edge{min(v, w), max(v, w)}) {
		t.Fatalf("OtherEnd(%v, %d, %d) = %d, %d", g, e, v, w, code)
	}
	if back, code := impl.OtherEnd(g, e, w); code != impl.ErrNone || back != v {
		t.Fatalf("OtherEnd(%v, %d, %d) = %d, %d", g, e, w, back, code)
	}
	if list, _ := impl.EdgesAt(g, w); !slices.Contains(list, e) {
		t.Fatalf("EdgesAt(%v, %d) = %v without %d", g, w, list, e)
	}
}

// An edge leads from no other vertices than from those at which it is.
func TestPromise1EdgesLeadFromTheirVerticesAlone(t *testing.T) {
	for _, g := range goodGraphs(t) {
		for e, ends := range g.Edges {
			for v := range g.Size {
				w, code := impl.OtherEnd(g, int64(e), v)
				if on := ends[0] == v || ends[1] == v; on != (code == impl.ErrNone) || !on && (code != impl.ErrState || w != 0) {
					t.Fatalf("OtherEnd(%v, %d, %d) = %d, %d", g, e, v, w, code)
				}
			}
		}
	}
}

// Promise 1: graphs come back from their texts.
func TestPromise1GraphsComeBackFromTexts(t *testing.T) {
	for _, g := range goodGraphs(t) {
		text, code := impl.GraphText(g)
		if code != impl.ErrNone || text != textOf(g) {
			t.Fatalf("GraphText(%v) = %q, %d", g, text, code)
		}
		back, code := impl.ParseGraph(text)
		if code != impl.ErrNone || !sameGraph(back, g) {
			t.Fatalf("ParseGraph(%q) = %v, %d", text, back, code)
		}
	}
}

// The guarantee of chapter 1: renumbered graphs have the same parts, girths and diameters.
func TestRenumberedGraphsAreAlike(t *testing.T) {
	draw := rand.New(rand.NewSource(11))
	for _, g := range goodGraphs(t) {
		p, inverse := make([]int64, g.Size), make([]int64, g.Size)
		for v, w := range draw.Perm(int(g.Size)) {
			p[v], inverse[w] = int64(w), int64(v)
		}
		h, code := impl.RenumberGraph(g, p)
		if code != impl.ErrNone || !impl.IsGraph(h) {
			t.Fatalf("RenumberGraph(%v, %v) = %v, %d", g, p, h, code)
		}
		if back, code := impl.RenumberGraph(h, inverse); code != impl.ErrNone || !sameGraph(back, g) {
			t.Fatalf("RenumberGraph(%v, %v) = %v, %d", h, inverse, back, code)
		}
		checkAlike(t, g, h, p)
	}
}

func checkAlike(t *testing.T, g impl.Graph, h impl.Graph, p []int64) {
	t.Helper()
	for a := range g.Size {
		for b := range g.Size {
			d, one := impl.DistanceOf(g, a, b)
			e, two := impl.DistanceOf(h, p[a], p[b])
			if d != e || one != two {
				t.Fatalf("%v by %v: distances %d and %d", g, p, d, e)
			}
		}
	}
	girth, _ := impl.GirthOf(g)
	other, _ := impl.GirthOf(h)
	diameter, one := impl.DiameterOf(g)
	second, two := impl.DiameterOf(h)
	if girth != other || diameter != second || one != two {
		t.Fatalf("%v by %v: girths %d, %d, diameters %d, %d", g, p, girth, other, diameter, second)
	}
	parts, _ := impl.PartsOf(g)
	for _, part := range parts {
		for i, v := range part {
			part[i] = p[v]
		}
		slices.Sort(part)
	}
	slices.SortFunc(parts, slices.Compare[[]int64])
	if images, _ := impl.PartsOf(h); !sameParts(images, parts) {
		t.Fatalf("%v by %v: parts %v, not %v", g, p, images, parts)
	}
}

// nearest returns all distances of a graph, or 99 where there is no way, by the rule of Floyd.
func nearest(g impl.Graph) [][]int64 {
	far := make([][]int64, g.Size)
	for v := range far {
		far[v] = slices.Repeat([]int64{99}, int(g.Size))
		far[v][v] = 0
	}
	for _, e := range g.Edges {
		far[e[0]][e[1]], far[e[1]][e[0]] = 1, 1
	}
	for via := range far {
		for a := range far {
			for b := range far {
				far[a][b] = min(far[a][b], far[a][via]+far[via][b])
			}
		}
	}
	for _, row := range far {
		for b, d := range row {
			row[b] = min(d, 99)
		}
	}
	return far
}

func TestDistancesAgainstFloyd(t *testing.T) {
	for _, g := range goodGraphs(t) {
		far := nearest(g)
		greatest := int64(0)
		for a, row := range far {
			for b, d := range row {
				greatest = max(greatest, d)
				got, code := impl.DistanceOf(g, int64(a), int64(b))
				if d == 99 && (code != impl.ErrNotFound || got != 0) || d < 99 && (code != impl.ErrNone || got != d) {
					t.Fatalf("DistanceOf(%v, %d, %d) = %d, %d, not %d", g, a, b, got, code, d)
				}
			}
		}
		diameter, code := impl.DiameterOf(g)
		connected, _ := impl.IsConnected(g)
		if connected != (greatest < 99) || connected && (diameter != greatest || code != impl.ErrNone) ||
			!connected && (diameter != 0 || code != impl.ErrState) {
			t.Errorf("%v: connected %v, diameter %d, %d, not %d", g, connected, diameter, code, greatest)
		}
		checkParts(t, g, far)
	}
}

func checkParts(t *testing.T, g impl.Graph, far [][]int64) {
	t.Helper()
	var want [][]int64
	for a, row := range far {
		var part []int64
		for b, d := range row {
			if d < 99 {
				part = append(part, int64(b))
			}
		}
		if part[0] == int64(a) {
			want = append(want, part)
		}
	}
	if parts, code := impl.PartsOf(g); code != impl.ErrNone || !sameParts(parts, want) {
		t.Errorf("PartsOf(%v) = %v, %d, not %v", g, parts, code, want)
	}
}

// hasCycle reports whether there is a cycle of the length k, by going on from its least vertex.
func hasCycle(g impl.Graph, k int) bool {
	var goOn func(way []int64, used []int) bool
	goOn = func(way []int64, used []int) bool {
		last := way[len(way)-1]
		for i, e := range g.Edges {
			if slices.Contains(used, i) || e[0] != last && e[1] != last {
				continue
			}
			next := e[0] + e[1] - last
			if len(way) == k && next == way[0] {
				return true
			}
			if len(way) < k && next > way[0] && !slices.Contains(way, next) && goOn(append(slices.Clone(way), next), append(slices.Clone(used), i)) {
				return true
			}
		}
		return false
	}
	for v := range g.Size {
		if goOn([]int64{v}, nil) {
			return true
		}
	}
	return false
}

func TestGirthsAgainstAllCycles(t *testing.T) {
	for _, g := range goodGraphs(t) {
		want := 2
		for !hasCycle(g, want) {
			want++
		}
		if girth, code := impl.GirthOf(g); girth != int64(want) || code != impl.ErrNone {
			t.Errorf("GirthOf(%v) = %d, %d, not %d", g, girth, code, want)
		}
	}
}

// hasKinds reports whether vertices from v on can be given kinds such that all edges join both.
func hasKinds(g impl.Graph, kinds []bool) bool {
	v := int64(len(kinds))
	for _, e := range g.Edges {
		if e[1] < v && kinds[e[0]] == kinds[e[1]] {
			return false
		}
	}
	return v == g.Size || hasKinds(g, append(slices.Clone(kinds), false)) || hasKinds(g, append(slices.Clone(kinds), true))
}

func TestBipartiteAgainstAllKinds(t *testing.T) {
	var found int
	for _, g := range goodGraphs(t) {
		want := hasKinds(g, nil)
		if yes, code := impl.IsBipartite(g); yes != want || code != impl.ErrNone {
			t.Errorf("IsBipartite(%v) = %v, %d", g, yes, code)
		}
		if want {
			found++
		}
	}
	if found == 0 {
		t.Error("no graph was bipartite")
	}
}
