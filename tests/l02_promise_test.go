package tests

import (
	"math/rand"
	"slices"
	"testing"

	"loop.example/g01329/impl"
)

// Promise 2: counts are six times the normal colourings.
func TestPromise2CountsAreSixTimesTheNormalColourings(t *testing.T) {
	for _, g := range goodGraphs(t) {
		count, code := impl.CountColourings(g)
		if code != impl.ErrNone || count != refCount(g) {
			t.Fatalf("CountColourings(%v) = %d, %d, not %d", g, count, code, refCount(g))
		}
		has, code := impl.HasColouring(g)
		if code != impl.ErrNone || has != (count > 0) {
			t.Fatalf("HasColouring(%v) = %v, %d", g, has, code)
		}
		list, code := impl.NormalColourings(g)
		if count > 6*impl.MaxColourings {
			if code != impl.ErrLimit || len(list) != 0 {
				t.Fatalf("NormalColourings(%v) = %d lists, %d", g, len(list), code)
			}
			continue
		}
		if code != impl.ErrNone || int64(6*len(list)) != count {
			t.Fatalf("NormalColourings(%v) = %d lists, %d, not %d", g, len(list), code, count/6)
		}
		checkNormal(t, g, list)
	}
}

// checkNormal tells whether all lists are normal colourings, in order, the first one being the first.
func checkNormal(t *testing.T, g impl.Graph, list [][]int64) {
	t.Helper()
	for i, c := range list {
		if !refIsColouring(g, c) || !slices.Equal(c[:3], []int64{0, 1, 2}) {
			t.Fatalf("%v: %v is not normal", g, c)
		}
		if i > 0 && slices.Compare(list[i-1], c) >= 0 {
			t.Fatalf("%v: %v before %v", g, list[i-1], c)
		}
	}
	least, code := impl.FirstColouring(g)
	if len(list) == 0 && (code != impl.ErrNotFound || len(least) != 0) {
		t.Fatalf("FirstColouring(%v) = %v, %d", g, least, code)
	}
	if len(list) > 0 && (code != impl.ErrNone || !slices.Equal(least, list[0])) {
		t.Fatalf("FirstColouring(%v) = %v, %d, not %v", g, least, code, list[0])
	}
}

// All colourings, found without a search, are the normal ones with renamed colours.
func TestPromise2NormalColouringsAgainstAllLists(t *testing.T) {
	for _, g := range goodGraphs(t) {
		if g.Size > 6 {
			continue
		}
		var normal [][]int64
		count := int64(0)
		allLists(len(g.Edges), func(c []int64) {
			if refIsColouring(g, c) {
				count++
				if slices.Equal(c[:3], []int64{0, 1, 2}) {
					normal = append(normal, slices.Clone(c))
				}
			}
		})
		list, code := impl.NormalColourings(g)
		if code != impl.ErrNone || !sameParts(list, normal) || int64(6*len(normal)) != count {
			t.Fatalf("NormalColourings(%v) = %v, %d, not %v", g, list, code, normal)
		}
	}
}

// Promise 2: exchanging twice changes nothing. Nothing but the chain is changed by exchanging once.
func TestPromise2ExchangingTwiceChangesNothing(t *testing.T) {
	for _, g := range colourable(t) {
		c := first(t, g)
		for e := range c {
			for b := range int64(3) {
				if b != c[e] {
					checkExchange(t, g, c, int64(e), b)
				}
			}
		}
	}
}

func checkExchange(t *testing.T, g impl.Graph, c []int64, e int64, b int64) {
	t.Helper()
	chain, code := impl.ChainOf(g, c, e, b)
	if code != impl.ErrNone || !slices.Equal(chain, refChain(g, c, e, b)) {
		t.Fatalf("ChainOf(%v, %v, %d, %d) = %v, %d", g, c, e, b, chain, code)
	}
	made, code := impl.ExchangeChain(g, c, e, b)
	if code != impl.ErrNone || !slices.Equal(made, refExchange(g, c, e, b)) || !refIsColouring(g, made) {
		t.Fatalf("ExchangeChain(%v, %v, %d, %d) = %v, %d", g, c, e, b, made, code)
	}
	again, code := impl.ChainOf(g, made, e, c[e])
	if code != impl.ErrNone || !slices.Equal(again, chain) {
		t.Fatalf("ChainOf(%v, %v, %d, %d) = %v, %d, not %v", g, made, e, c[e], again, code, chain)
	}
	for _, edge := range chain {
		other := c[e] + b - made[edge]
		back, code := impl.ExchangeChain(g, made, edge, other)
		if code != impl.ErrNone || !slices.Equal(back, c) {
			t.Fatalf("ExchangeChain(%v, %v, %d, %d) = %v, %d, not %v", g, made, edge, other, back, code, c)
		}
	}
}

// A chain may have all edges of its two colours.
func TestChainsOfAllEdgesOfTheirColours(t *testing.T) {
	g := named(t, "k4")
	c := []int64{2, 1, 0, 0, 1, 2}
	for e, a := range c {
		for b := range int64(3) {
			if b == a {
				continue
			}
			var want []int64
			for i, colour := range c {
				if colour == a || colour == b {
					want = append(want, int64(i))
				}
			}
			chain, code := impl.ChainOf(g, c, int64(e), b)
			if code != impl.ErrNone || !slices.Equal(chain, want) {
				t.Errorf("ChainOf(k4, %v, %d, %d) = %v, %d", c, e, b, chain, code)
			}
			made, _ := impl.ExchangeChain(g, c, int64(e), b)
			if yes, code := impl.AreAlike(g, c, made); !yes || code != impl.ErrNone {
				t.Errorf("AreAlike(k4, %v, %v) = %v, %d", c, made, yes, code)
			}
		}
	}
}

func TestRenamedColouringsAreAlike(t *testing.T) {
	for _, g := range colourable(t) {
		list, code := impl.NormalColourings(g)
		if code != impl.ErrNone {
			continue
		}
		for i, c := range list[:min(len(list), 8)] {
			for _, name := range renamingsOfColours() {
				for j, d := range list[:min(len(list), 8)] {
					yes, code := impl.AreAlike(g, renamedBy(c, name), d)
					if code != impl.ErrNone || yes != (i == j) || yes != refAlike(c, d) {
						t.Fatalf("AreAlike(%v, %v, %v) = %v, %d", g, renamedBy(c, name), d, yes, code)
					}
				}
				if yes, code := impl.AreAlike(g, c, renamedBy(c, name)); !yes || code != impl.ErrNone {
					t.Fatalf("AreAlike(%v, %v, %v) = %v, %d", g, c, renamedBy(c, name), yes, code)
				}
			}
		}
	}
}

func TestChainNumbersAgainstLeastEdges(t *testing.T) {
	for _, g := range colourable(t) {
		for _, name := range renamingsOfColours() {
			c := renamedBy(first(t, g), name)
			numbers, code := impl.ChainNumbers(g, c)
			if code != impl.ErrNone || !slices.Equal(numbers, refChainNumbers(g, c)) {
				t.Fatalf("ChainNumbers(%v, %v) = %v, %d", g, c, numbers, code)
			}
		}
	}
}

func TestCountReachedAgainstAllExchanges(t *testing.T) {
	for i, g := range colourable(t) {
		// The search without the program takes its time.
		if g.Size > 14 || i%2 == 0 {
			continue
		}
		c := renamedBy(first(t, g), renamingsOfColours()[i%6])
		want := refReached(g, c)
		count, code := impl.CountReached(g, c)
		if want < 0 && (count != 0 || code != impl.ErrLimit) || want >= 0 && (count != want || code != impl.ErrNone) {
			t.Fatalf("CountReached(%v, %v) = %d, %d, not %d", g, c, count, code, want)
		}
	}
}

// Cut numbers keep the rest by 2 of the number of vertices.
func TestCutNumbersKeepTheRest(t *testing.T) {
	draw := rand.New(rand.NewSource(5))
	for _, g := range colourable(t) {
		c := first(t, g)
		all := uint32(1)<<g.Size - 1
		for k := range uint32(40) {
			set := draw.Uint32() & all
			if k < 2 {
				set = all * k
			}
			checkCut(t, g, c, set)
		}
	}
}

func checkCut(t *testing.T, g impl.Graph, c []int64, set uint32) {
	t.Helper()
	side := listOf(set)
	numbers, code := impl.CutNumbers(g, c, side)
	if code != impl.ErrNone || !slices.Equal(numbers, refCut(g, c, set)) {
		t.Fatalf("CutNumbers(%v, %v, %v) = %v, %d", g, c, side, numbers, code)
	}
	for _, x := range numbers {
		if x%2 != int64(len(side)%2) {
			t.Fatalf("CutNumbers(%v, %v, %v) = %v", g, c, side, numbers)
		}
	}
}
