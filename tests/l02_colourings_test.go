package tests

import (
	"slices"
	"testing"

	"loop.example/g01329/impl"
)

// parsed returns the graph with a text.
func parsed(t *testing.T, text string) impl.Graph {
	t.Helper()
	g, code := impl.ParseGraph(text)
	if code != impl.ErrNone {
		t.Fatalf("ParseGraph(%q): code %d", text, code)
	}
	return g
}

// first returns the first colouring of a graph that has one.
func first(t *testing.T, g impl.Graph) []int64 {
	t.Helper()
	c, code := impl.FirstColouring(g)
	if code != impl.ErrNone || !refIsColouring(g, c) {
		t.Fatalf("FirstColouring(%v) = %v, %d", g, c, code)
	}
	return c
}

// isColourable reports whether a graph has a colouring, without the program.
func isColourable(g impl.Graph) bool {
	return refCount(g) > 0
}

// colourable returns graphs that have colourings.
func colourable(t *testing.T) []impl.Graph {
	t.Helper()
	return slices.DeleteFunc(goodGraphs(t), func(g impl.Graph) bool { return !isColourable(g) })
}

// thetas returns k graphs of two vertices beside each other.
func thetas(t *testing.T, k int) impl.Graph {
	t.Helper()
	g := named(t, "theta")
	for range k - 1 {
		g = beside(t, g, named(t, "theta"))
	}
	return g
}

func TestColouringLimits(t *testing.T) {
	if impl.MaxColourings != 200 || impl.MaxReached != 300 {
		t.Error("MaxColourings, MaxReached", impl.MaxColourings, impl.MaxReached)
	}
}

func TestIsColouring(t *testing.T) {
	for _, c := range []struct {
		name string
		c    []int64
		want bool
	}{
		{"theta", []int64{0, 1, 2}, true},
		{"theta", []int64{2, 0, 1}, true},
		{"theta", []int64{0, 1, 1}, false},
		{"theta", []int64{0, 0, 0}, false},
		{"theta", []int64{0, 1, 3}, false},
		{"theta", []int64{1, 2, 3}, false},
		{"theta", []int64{-1, 0, 1}, false},
		{"theta", []int64{0, 1, 1<<63 - 1}, false},
		{"theta", []int64{-1 << 63, 1, 2}, false},
		{"theta", nil, false},
		{"theta", []int64{0, 1}, false},
		{"theta", []int64{0, 1, 2, 0}, false},
		{"k4", []int64{0, 1, 2, 2, 1, 0}, true},
		{"k4", []int64{2, 1, 0, 0, 1, 2}, true},
		{"k4", []int64{0, 1, 2, 2, 1, 1}, false},
		{"k4", []int64{0, 1, 2, 0, 1, 2}, false},
		{"k4", []int64{0, 1, 2, 2, 1}, false},
		{"k4", []int64{0, 1, 2, 2, 1, 0, 0}, false},
		{"k33", []int64{0, 1, 2, 1, 2, 0, 2, 0, 1}, true},
		// A Latin square of which two lines are equal.
		{"k33", []int64{0, 1, 2, 1, 2, 0, 1, 2, 0}, false},
		{"petersen", make([]int64, 15), false},
		{"petersen", nil, false},
	} {
		yes, code := impl.IsColouring(named(t, c.name), c.c)
		if yes != c.want || code != impl.ErrNone {
			t.Errorf("IsColouring(%s, %v) = %v, %d", c.name, c.c, yes, code)
		}
	}
}

// Of all lists with a number for each edge just the colourings are colourings.
func TestIsColouringOfAllLists(t *testing.T) {
	for _, g := range goodGraphs(t) {
		if g.Size > 6 {
			continue
		}
		allLists(len(g.Edges), func(c []int64) {
			if yes, code := impl.IsColouring(g, c); yes != refIsColouring(g, c) || code != impl.ErrNone {
				t.Fatalf("IsColouring(%v, %v) = %v, %d", g, c, yes, code)
			}
		})
	}
}

// One edge with another colour, or with no colour, is enough to spoil a colouring.
func TestIsColouringWithOneNumberChanged(t *testing.T) {
	for _, g := range colourable(t) {
		c := first(t, g)
		for i, old := range c {
			for _, x := range []int64{-1 << 63, -3, -2, -1, 0, 1, 2, 3, 4, 5, 1<<63 - 1} {
				c[i] = x
				if yes, code := impl.IsColouring(g, c); yes != (x == old) || code != impl.ErrNone {
					t.Fatalf("IsColouring(%v, %v) = %v, %d", g, c, yes, code)
				}
			}
			c[i] = old
		}
	}
}

func TestNumbersOfColourings(t *testing.T) {
	for _, c := range []struct {
		name string
		want int64
	}{
		{"theta", 6}, {"k4", 6}, {"k33", 12}, {"prism", 6}, {"cube", 24},
		{"petersen", 0}, {"tietze", 0}, {"flower5", 0}, {"bridge", 0},
	} {
		g := named(t, c.name)
		count, code := impl.CountColourings(g)
		if count != c.want || code != impl.ErrNone {
			t.Errorf("CountColourings(%s) = %d, %d", c.name, count, code)
		}
		has, code := impl.HasColouring(g)
		if has != (c.want > 0) || code != impl.ErrNone {
			t.Errorf("HasColouring(%s) = %v, %d", c.name, has, code)
		}
		list, code := impl.NormalColourings(g)
		if int64(len(list)) != c.want/6 || code != impl.ErrNone {
			t.Errorf("NormalColourings(%s) = %v, %d", c.name, list, code)
		}
		least, code := impl.FirstColouring(g)
		if c.want == 0 && (code != impl.ErrNotFound || len(least) != 0) {
			t.Errorf("FirstColouring(%s) = %v, %d", c.name, least, code)
		}
		if c.want > 0 && (code != impl.ErrNone || !slices.Equal(least, list[0])) {
			t.Errorf("FirstColouring(%s) = %v, %d, not %v", c.name, least, code, list)
		}
	}
}

func TestNormalColourings(t *testing.T) {
	for _, c := range []struct {
		g    impl.Graph
		want [][]int64
	}{
		{named(t, "theta"), [][]int64{{0, 1, 2}}},
		{named(t, "k4"), [][]int64{{0, 1, 2, 2, 1, 0}}},
		{named(t, "k33"), [][]int64{{0, 1, 2, 1, 2, 0, 2, 0, 1}, {0, 1, 2, 2, 0, 1, 1, 2, 0}}},
		{named(t, "prism"), [][]int64{{0, 1, 2, 2, 1, 0, 0, 1, 2}}},
		{parsed(t, "4:0-1,0-1,0-2,1-3,2-3,2-3"), [][]int64{{0, 1, 2, 2, 0, 1}, {0, 1, 2, 2, 1, 0}}},
		{thetas(t, 2), [][]int64{{0, 1, 2, 0, 1, 2}, {0, 1, 2, 0, 2, 1}, {0, 1, 2, 1, 0, 2},
			{0, 1, 2, 1, 2, 0}, {0, 1, 2, 2, 0, 1}, {0, 1, 2, 2, 1, 0}}},
	} {
		list, code := impl.NormalColourings(c.g)
		if !sameParts(list, c.want) || code != impl.ErrNone {
			t.Errorf("NormalColourings(%v) = %v, %d", c.g, list, code)
		}
		if least := first(t, c.g); !slices.Equal(least, c.want[0]) {
			t.Errorf("FirstColouring(%v) = %v", c.g, least)
		}
	}
}

// No graph of so few vertices was found with 199 to 203 normal colourings; 198 are there, and 204.
func TestNormalColouringsAtTheLimit(t *testing.T) {
	for _, c := range []struct {
		text string
		want int
	}{
		{"20:0-1,0-5,0-18,1-8,1-10,2-3,2-14,2-16,3-17,3-19,4-7,4-13,4-15,5-13,5-17,6-13,6-17,6-19,7-10,7-18,8-15,8-18,9-12,9-12,9-12,10-11,11-14,11-16,14-19,15-16", 198},
		{"20:0-1,0-5,0-18,1-8,1-10,2-3,2-14,2-16,3-17,3-19,4-7,4-13,4-15,5-13,5-17,6-13,6-17,6-19,7-14,7-18,8-15,8-18,9-12,9-12,9-12,10-11,10-11,11-16,14-19,15-16", 204},
		{"20:0-10,0-12,0-15,1-5,1-5,1-5,2-7,2-8,2-19,3-9,3-10,3-13,4-8,4-17,4-19,6-11,6-16,6-17,7-17,7-18,8-9,9-14,10-14,11-13,11-13,12-14,12-18,15-16,15-18,16-19", 204},
	} {
		g := parsed(t, c.text)
		count, code := impl.CountColourings(g)
		if count != int64(6*c.want) || code != impl.ErrNone || refCount(g) != count {
			t.Fatalf("CountColourings(%s) = %d, %d", c.text, count, code)
		}
		list, code := impl.NormalColourings(g)
		switch {
		case c.want <= impl.MaxColourings && (len(list) != c.want || code != impl.ErrNone):
			t.Errorf("NormalColourings(%s) = %d lists, %d", c.text, len(list), code)
		case c.want > impl.MaxColourings && (len(list) != 0 || code != impl.ErrLimit):
			t.Errorf("NormalColourings(%s) = %d lists, %d", c.text, len(list), code)
		}
	}
}

// Graphs with very many colourings are counted, and those with no colouring are told, without delay.
func TestGraphsOfManyParts(t *testing.T) {
	count := int64(1)
	for k := 1; k <= 10; k++ {
		count *= 6
		g := thetas(t, k)
		made, code := impl.CountColourings(g)
		if made != count || code != impl.ErrNone {
			t.Errorf("CountColourings of %d thetas = %d, %d", k, made, code)
		}
		want := int64(impl.ErrNone)
		if k > 3 {
			want = impl.ErrLimit
		}
		list, code := impl.NormalColourings(g)
		if code != want || code == impl.ErrNone && int64(len(list)) != count/6 || code != impl.ErrNone && len(list) != 0 {
			t.Errorf("NormalColourings of %d thetas = %d lists, %d", k, len(list), code)
		}
	}
	for _, g := range []impl.Graph{
		beside(t, thetas(t, 5), named(t, "petersen")),
		beside(t, named(t, "petersen"), thetas(t, 5)),
		beside(t, thetas(t, 5), named(t, "bridge")),
		beside(t, beside(t, thetas(t, 2), named(t, "petersen")), thetas(t, 3)),
	} {
		count, a := impl.CountColourings(g)
		has, b := impl.HasColouring(g)
		list, c := impl.NormalColourings(g)
		least, d := impl.FirstColouring(g)
		if count != 0 || has || len(list) != 0 || len(least) != 0 || a != impl.ErrNone || b != impl.ErrNone || c != impl.ErrNone || d != impl.ErrNotFound {
			t.Errorf("%v: %d, %d, %v, %d, %v, %d, %v, %d", g, count, a, has, b, list, c, least, d)
		}
	}
}

func TestAreAlike(t *testing.T) {
	square := []int64{0, 1, 2, 1, 2, 0, 2, 0, 1}
	for _, c := range []struct {
		name string
		a, b []int64
		want bool
	}{
		{"theta", []int64{0, 1, 2}, []int64{0, 1, 2}, true},
		{"theta", []int64{0, 1, 2}, []int64{2, 1, 0}, true},
		{"theta", []int64{1, 2, 0}, []int64{2, 0, 1}, true},
		{"k4", []int64{0, 1, 2, 2, 1, 0}, []int64{1, 0, 2, 2, 0, 1}, true},
		{"k33", square, []int64{2, 0, 1, 0, 1, 2, 1, 2, 0}, true},
		{"k33", square, []int64{0, 1, 2, 2, 0, 1, 1, 2, 0}, false},
		{"k33", []int64{0, 1, 2, 2, 0, 1, 1, 2, 0}, square, false},
		{"k33", square, []int64{2, 1, 0, 0, 2, 1, 1, 0, 2}, false},
	} {
		yes, code := impl.AreAlike(named(t, c.name), c.a, c.b)
		if yes != c.want || code != impl.ErrNone {
			t.Errorf("AreAlike(%s, %v, %v) = %v, %d", c.name, c.a, c.b, yes, code)
		}
	}
}

func TestChainOf(t *testing.T) {
	double := parsed(t, "4:0-1,0-1,0-2,1-3,2-3,2-3")
	for _, c := range []struct {
		g          impl.Graph
		c          []int64
		e, b       int64
		chain, new []int64
	}{
		{named(t, "theta"), []int64{0, 1, 2}, 0, 1, []int64{0, 1}, []int64{1, 0, 2}},
		{named(t, "theta"), []int64{0, 1, 2}, 0, 2, []int64{0, 2}, []int64{2, 1, 0}},
		{named(t, "theta"), []int64{0, 1, 2}, 2, 1, []int64{1, 2}, []int64{0, 2, 1}},
		{named(t, "theta"), []int64{2, 0, 1}, 2, 0, []int64{1, 2}, []int64{2, 1, 0}},
		{named(t, "k4"), []int64{0, 1, 2, 2, 1, 0}, 0, 1, []int64{0, 1, 4, 5}, []int64{1, 0, 2, 2, 0, 1}},
		{named(t, "k4"), []int64{0, 1, 2, 2, 1, 0}, 4, 0, []int64{0, 1, 4, 5}, []int64{1, 0, 2, 2, 0, 1}},
		{named(t, "k4"), []int64{0, 1, 2, 2, 1, 0}, 3, 0, []int64{0, 2, 3, 5}, []int64{2, 1, 0, 0, 1, 2}},
		{double, []int64{0, 1, 2, 2, 0, 1}, 0, 1, []int64{0, 1}, []int64{1, 0, 2, 2, 0, 1}},
		{double, []int64{0, 1, 2, 2, 0, 1}, 5, 0, []int64{4, 5}, []int64{0, 1, 2, 2, 1, 0}},
		{double, []int64{0, 1, 2, 2, 0, 1}, 3, 0, []int64{0, 2, 3, 4}, []int64{2, 1, 0, 0, 2, 1}},
		{thetas(t, 2), []int64{0, 1, 2, 1, 2, 0}, 1, 2, []int64{1, 2}, []int64{0, 2, 1, 1, 2, 0}},
		{thetas(t, 2), []int64{0, 1, 2, 1, 2, 0}, 4, 1, []int64{3, 4}, []int64{0, 1, 2, 2, 1, 0}},
	} {
		chain, code := impl.ChainOf(c.g, c.c, c.e, c.b)
		if !slices.Equal(chain, c.chain) || code != impl.ErrNone {
			t.Errorf("ChainOf(%v, %v, %d, %d) = %v, %d", c.g, c.c, c.e, c.b, chain, code)
		}
		made, code := impl.ExchangeChain(c.g, c.c, c.e, c.b)
		if !slices.Equal(made, c.new) || code != impl.ErrNone {
			t.Errorf("ExchangeChain(%v, %v, %d, %d) = %v, %d", c.g, c.c, c.e, c.b, made, code)
		}
	}
}

func TestChainNumbers(t *testing.T) {
	for _, c := range []struct {
		g    impl.Graph
		c    []int64
		want []int64
	}{
		{named(t, "theta"), []int64{0, 1, 2}, []int64{1, 1, 1}},
		{named(t, "k4"), []int64{0, 1, 2, 2, 1, 0}, []int64{1, 1, 1}},
		{parsed(t, "4:0-1,0-1,0-2,1-3,2-3,2-3"), []int64{0, 1, 2, 2, 0, 1}, []int64{2, 1, 1}},
		{parsed(t, "4:0-1,0-1,0-2,1-3,2-3,2-3"), []int64{0, 2, 1, 1, 2, 0}, []int64{1, 2, 1}},
		{parsed(t, "4:0-1,0-1,0-2,1-3,2-3,2-3"), []int64{2, 1, 0, 0, 1, 2}, []int64{1, 1, 2}},
		{thetas(t, 10), slices.Repeat([]int64{0, 1, 2}, 10), []int64{10, 10, 10}},
	} {
		numbers, code := impl.ChainNumbers(c.g, c.c)
		if !slices.Equal(numbers, c.want) || code != impl.ErrNone {
			t.Errorf("ChainNumbers(%v, %v) = %v, %d", c.g, c.c, numbers, code)
		}
	}
}

// Each part reaches by itself: three of two vertices have 216 colourings, four 1296.
func TestCountReached(t *testing.T) {
	for _, c := range []struct {
		g    impl.Graph
		want int64
	}{
		{named(t, "theta"), 6}, {named(t, "k4"), 6}, {named(t, "prism"), 6}, {named(t, "cube"), 24},
		// The two Latin squares do not reach each other.
		{named(t, "k33"), 6},
		{thetas(t, 2), 36}, {thetas(t, 3), 216}, {beside(t, named(t, "cube"), named(t, "theta")), 144},
		{parsed(t, "20:0-3,0-12,0-14,1-12,1-16,1-17,2-6,2-10,2-10,3-6,3-9,4-5,4-7,4-11,5-9,5-16,6-18,7-15,7-19,8-14,8-15,8-18,9-13,10-14,11-16,11-17,12-19,13-15,13-18,17-19"), impl.MaxReached},
	} {
		count, code := impl.CountReached(c.g, first(t, c.g))
		if count != c.want || code != impl.ErrNone {
			t.Errorf("CountReached(%v) = %d, %d", c.g, count, code)
		}
	}
}

// Numbers of reached colourings are multiples of 6, as all names of colours are reached. Thus 306 is
// the next number behind the limit.
func TestCountReachedBehindTheLimit(t *testing.T) {
	next := parsed(t, "20:0-2,0-3,0-9,1-8,1-9,1-13,2-12,2-14,3-14,3-18,4-6,4-11,4-13,5-6,5-7,5-8,6-15,7-17,7-19,8-17,9-16,10-17,10-18,10-19,11-15,11-16,12-18,12-19,13-16,14-15")
	if count := refCount(next); count != 306 {
		t.Fatalf("%d colourings", count)
	}
	for _, g := range []impl.Graph{next, thetas(t, 4), thetas(t, 10), cubicLadder(20)} {
		count, code := impl.CountReached(g, first(t, g))
		if count != 0 || code != impl.ErrLimit {
			t.Errorf("CountReached(%v) = %d, %d", g, count, code)
		}
	}
}

func TestCutNumbers(t *testing.T) {
	for _, c := range []struct {
		name string
		side []int64
		want []int64
	}{
		{"theta", nil, []int64{0, 0, 0}},
		{"theta", []int64{0}, []int64{1, 1, 1}},
		{"theta", []int64{1}, []int64{1, 1, 1}},
		{"theta", []int64{0, 1}, []int64{0, 0, 0}},
		{"k4", []int64{}, []int64{0, 0, 0}},
		{"k4", []int64{3}, []int64{1, 1, 1}},
		{"k4", []int64{0, 1}, []int64{0, 2, 2}},
		{"k4", []int64{0, 2}, []int64{2, 0, 2}},
		{"k4", []int64{1, 2}, []int64{2, 2, 0}},
		{"k4", []int64{0, 1, 2}, []int64{1, 1, 1}},
		{"k4", []int64{0, 1, 2, 3}, []int64{0, 0, 0}},
		{"k33", []int64{0, 1, 2}, []int64{3, 3, 3}},
		{"k33", []int64{3, 4, 5}, []int64{3, 3, 3}},
		{"prism", []int64{0, 1, 2}, []int64{1, 1, 1}},
	} {
		g := named(t, c.name)
		numbers, code := impl.CutNumbers(g, first(t, g), c.side)
		if !slices.Equal(numbers, c.want) || code != impl.ErrNone {
			t.Errorf("CutNumbers(%s, %v) = %v, %d", c.name, c.side, numbers, code)
		}
	}
}
