package tests

import (
	"slices"
	"testing"

	"loop.example/g01329/impl"
)

// A defectCall calls a function of chapter 8 with a graph, and with what it has of two edges, two numbers and a list, and tells
// its code and whether its other result is the zero value.
type defectCall struct {
	name string
	run  func(g impl.Graph, x defectArguments) (int64, bool)
}

type defectArguments struct {
	e, f, k, d int64
	list       []int64
}

func areCloseCall() defectCall {
	return defectCall{"AreClose", func(g impl.Graph, x defectArguments) (int64, bool) {
		yes, code := impl.AreClose(g, x.e, x.f)
		return code, !yes
	}}
}

// circularCalls are the functions that have k and d, the test first.
func circularCalls() []defectCall {
	return []defectCall{
		{"IsCircular", func(g impl.Graph, x defectArguments) (int64, bool) {
			yes, code := impl.IsCircular(g, x.k, x.d, x.list)
			return code, !yes
		}},
		{"CircularOf", func(g impl.Graph, x defectArguments) (int64, bool) {
			list, code := impl.CircularOf(g, x.k, x.d)
			return code, len(list) == 0
		}},
	}
}

// testCalls are the tests of strong and of total colourings.
func testCalls() []defectCall {
	return []defectCall{
		{"IsStrong", func(g impl.Graph, x defectArguments) (int64, bool) {
			yes, code := impl.IsStrong(g, x.k, x.list)
			return code, !yes
		}},
		{"IsTotal", func(g impl.Graph, x defectArguments) (int64, bool) {
			yes, code := impl.IsTotal(g, x.k, x.list)
			return code, !yes
		}},
	}
}

// smallCalls are the functions with a graph alone that have the limit MaxSmall, weakCalls those that have MaxWeak.
func smallCalls() []defectCall {
	return []defectCall{
		{"StrongNumber", func(g impl.Graph, x defectArguments) (int64, bool) {
			number, code := impl.StrongNumber(g)
			return code, number == 0
		}},
		{"TotalNumber", func(g impl.Graph, x defectArguments) (int64, bool) {
			number, code := impl.TotalNumber(g)
			return code, number == 0
		}},
	}
}

func weakCalls() []defectCall {
	return []defectCall{
		{"ResistanceOf", func(g impl.Graph, x defectArguments) (int64, bool) {
			resistance, code := impl.ResistanceOf(g)
			return code, resistance == 0
		}},
		{"WeakSet", func(g impl.Graph, x defectArguments) (int64, bool) {
			weak, code := impl.WeakSet(g)
			return code, len(weak) == 0
		}},
	}
}

func defectCalls() []defectCall {
	return slices.Concat([]defectCall{areCloseCall()}, circularCalls(), testCalls(), smallCalls(), weakCalls())
}

// lengthOf returns how many numbers a list is to have: those of IsTotal have one for each vertex too.
func lengthOf(call defectCall, g impl.Graph) int {
	if call.name == "IsTotal" {
		return int(g.Size) + len(g.Edges)
	}
	return len(g.Edges)
}

// What is not a graph is told before numbers and lists that are not as told, limits, and colourings that are not there.
func TestDefectsOfNoGraphs(t *testing.T) {
	bad := badGraphs()
	for _, g := range []impl.Graph{named(t, "bridge"), named(t, "petersen"), cubicRing(20), thetas(t, 6), thetas(t, 7), parsed(t, leastBridge)} {
		g = copyGraph(g)
		slices.Reverse(g.Edges)
		bad = append(bad, badGraph{"edges out of order", g})
	}
	for _, bad := range bad {
		m := len(bad.g.Edges)
		for _, list := range [][]int64{nil, {0}, {0, 1, 2}, {0, 1, 2, 2, 1, 0}, make([]int64, m), make([]int64, m+int(max(0, min(bad.g.Size, 40)))), slices.Repeat([]int64{-1}, m)} {
			for _, x := range []defectArguments{{0, 1, 3, 1, list}, {0, 0, 3, 1, list}, {-1, 99, 2, 1, list}, {0, 5, 0, 0, list}, {5, 0, 14, 7, list},
				{1, 2, 15, 8, list}, {1<<63 - 1, -1 << 63, -1 << 63, 1<<63 - 1, list}, {0, 1, 20, 1, list}, {0, 1, 21, -1, list}} {
				for _, call := range defectCalls() {
					if code, zero := call.run(bad.g, x); code != impl.ErrInvalid || !zero {
						t.Errorf("%s: %s with %v: code %d, zero %v", bad.why, call.name, x, code, zero)
					}
				}
			}
		}
	}
}

func TestEdgesThatAreNotTwo(t *testing.T) {
	for _, g := range graphsForErrors(t) {
		m := int64(len(g.Edges))
		check := func(e int64, f int64, want int64) {
			t.Helper()
			for _, x := range []defectArguments{{e: e, f: f}, {e: f, f: e}} {
				if code, zero := areCloseCall().run(g, x); code != want || code != impl.ErrNone && !zero {
					t.Errorf("AreClose(%v, %d, %d): code %d, zero %v", g, x.e, x.f, code, zero)
				}
			}
		}
		for _, e := range numbersOfNoEdges(m) {
			check(e, 0, impl.ErrRange)
			check(e, m-1, impl.ErrRange)
			check(e, e, impl.ErrRange)
			check(e, -1-e, impl.ErrRange)
		}
		for e := range m {
			check(e, e, impl.ErrRange)
			check(e, (e+1)%m, impl.ErrNone)
		}
	}
}

// noCircles are k and d for which there are no circular colourings to speak of.
func noCircles() [][2]int64 {
	circles := [][2]int64{{1, 1}, {1, 0}, {0, 0}, {0, 1}, {-1, -1}, {-2, -1}, {-4, 1}, {15, 1}, {15, 7}, {16, 8}, {28, 14}, {1 << 32, 1},
		{1<<63 - 1, 1}, {1<<63 - 1, 1 << 62}, {-1 << 63, -1 << 62}, {-1 << 63, 1}, {1<<32 + 3, 1}, {14, 1 << 62}, {14, 1<<63 - 1}, {2, 1<<63 - 1}, {2, 1 << 62}}
	for k := int64(2); k <= impl.MaxCircle; k++ {
		for _, d := range []int64{-1 << 63, -1 << 62, -k, -2, -1, 0, k/2 + 1, k/2 + 2, k, 1 << 32, 1<<32 + 1} {
			circles = append(circles, [2]int64{k, d})
		}
	}
	return circles
}

// k and d out of their ranges are told for all lists, and for graphs above the limit too.
func TestCirclesOutOfRange(t *testing.T) {
	for _, g := range graphsForErrors(t) {
		m := len(g.Edges)
		for _, c := range noCircles() {
			for _, list := range [][]int64{nil, make([]int64, m), make([]int64, m+1), slices.Repeat([]int64{1 << 40}, m)} {
				for _, call := range circularCalls() {
					if code, zero := call.run(g, defectArguments{k: c[0], d: c[1], list: list}); code != impl.ErrRange || !zero {
						t.Fatalf("%s(%v, %d, %d, %v): code %d, zero %v", call.name, g, c[0], c[1], list, code, zero)
					}
				}
			}
		}
	}
}

// All k and d in their ranges are accepted: k of exactly 2 d, and of exactly MaxCircle. The limit is told behind them.
func TestCirclesInRange(t *testing.T) {
	for _, g := range graphsForErrors(t) {
		eachCircle(impl.MaxCircle, func(k int64, d int64) {
			if yes, code := impl.IsCircular(g, k, d, make([]int64, len(g.Edges))); yes || code != impl.ErrNone {
				t.Fatalf("IsCircular(%v, %d, %d) = %v, %d", g, k, d, yes, code)
			}
			list, code := impl.CircularOf(g, k, d)
			want := int64(impl.ErrNone)
			if g.Size > impl.MaxSmall {
				want = impl.ErrLimit
			} else if len(refCircular(g, k, d)) == 0 {
				want = impl.ErrNotFound
			}
			if code != want || (code == impl.ErrNone) != (len(list) == len(g.Edges)) || code != impl.ErrNone && len(list) != 0 {
				t.Fatalf("CircularOf(%v, %d, %d) = %v, %d, not %d", g, k, d, list, code, want)
			}
		})
	}
}

// Where k is out of its range strong and total colourings are not tested, for all lists.
func TestNumbersOfColoursOutOfRange(t *testing.T) {
	for _, g := range graphsForErrors(t) {
		for _, call := range testCalls() {
			n := lengthOf(call, g)
			for _, k := range []int64{-1 << 63, -1 << 32, -20, -1, 0, 21, 22, 40, 1 << 32, 1<<32 + 5, 1<<63 - 1} {
				for _, list := range [][]int64{nil, make([]int64, n), make([]int64, n-1), numbersUpTo(n)} {
					if code, zero := call.run(g, defectArguments{k: k, list: list}); code != impl.ErrRange || !zero {
						t.Fatalf("%s(%v, %d, %v): code %d, zero %v", call.name, g, k, list, code, zero)
					}
				}
			}
			for k := int64(1); k <= 20; k++ {
				if code, _ := call.run(g, defectArguments{k: k, list: make([]int64, n)}); code != impl.ErrNone {
					t.Fatalf("%s(%v, %d): code %d", call.name, g, k, code)
				}
			}
		}
	}
}

// numbersUpTo returns the numbers 0 to n - 1.
func numbersUpTo(n int) []int64 {
	list := make([]int64, n)
	for i := range list {
		list[i] = int64(i)
	}
	return list
}

// Lists that are too short or too long, even by as much as a list of another test.
func TestListsOfWrongLengthForColourings(t *testing.T) {
	for _, g := range graphsForErrors(t) {
		for _, call := range append(circularCalls()[:1], testCalls()...) {
			n := lengthOf(call, g)
			lengths := []int{0, 1, int(g.Size), n - 1, n + 1, n + 2, 2 * n, 2*len(g.Edges) + int(g.Size), n + int(g.Size)}
			if call.name == "IsTotal" {
				lengths = append(lengths, len(g.Edges))
			}
			for _, length := range lengths {
				for _, list := range [][]int64{make([]int64, length), numbersUpTo(length), slices.Repeat([]int64{-1}, length)} {
					for _, k := range []int64{3, 14} {
						if code, zero := call.run(g, defectArguments{k: k, d: 1, list: list}); code != impl.ErrRange || !zero {
							t.Fatalf("%s(%v, %d, %v): code %d, zero %v", call.name, g, k, list, code, zero)
						}
					}
				}
			}
		}
	}
}

// Numbers that no colouring has are no errors, wherever they stand.
func TestNumbersOfNoColouring(t *testing.T) {
	for _, g := range graphsForErrors(t) {
		for _, call := range append(circularCalls()[:1], testCalls()...) {
			for k := int64(2); k <= impl.MaxCircle; k += 4 {
				for i := range lengthOf(call, g) {
					for _, x := range []int64{-1 << 63, -1<<63 + 1, -1 << 62, -k, -2, -1, k, k + 1, 2 * k, 1 << 32, 1<<32 + k - 1, 1 << 62, 1<<63 - 1} {
						list := numbersUpTo(lengthOf(call, g))
						list[i] = x
						if code, zero := call.run(g, defectArguments{k: k, d: 1, list: list}); code != impl.ErrNone || !zero {
							t.Fatalf("%s(%v, %d, %v): code %d, zero %v", call.name, g, k, list, code, zero)
						}
					}
				}
			}
		}
	}
}

// Just the functions that look for least numbers and least lists have limits.
func TestGraphsAboveMaxSmallAndMaxWeak(t *testing.T) {
	graphs := []impl.Graph{cubicRing(10), cubicLadder(10), thetas(t, 5), named(t, "petersen"), named(t, "bridge"), cubicRing(12), cubicLadder(12), thetas(t, 6),
		named(t, "tietze"), parsed(t, doubledPetersen), beside(t, named(t, "theta"), named(t, "bridge")), cubicRing(14), cubicLadder(14), thetas(t, 7),
		beside(t, named(t, "bridge"), named(t, "k4")), cubicRing(16), cubicLadder(18), cubicRing(20), cubicLadder(20), thetas(t, 10), named(t, "flower5")}
	for _, g := range graphs {
		check := func(calls []defectCall, limit int64) {
			t.Helper()
			want := int64(impl.ErrNone)
			if g.Size > limit {
				want = impl.ErrLimit
			}
			for _, call := range calls {
				// There always are circular colourings for 4 and 1.
				if code, zero := call.run(g, defectArguments{f: 1, k: 4, d: 1}); code != want || code != impl.ErrNone && !zero {
					t.Errorf("%s(%v): code %d, zero %v", call.name, g, code, zero)
				}
			}
		}
		check(append(smallCalls(), circularCalls()[1]), 10)
		check(weakCalls(), 12)
		check([]defectCall{areCloseCall()}, impl.MaxVertices)
	}
}

func TestDefectsLeaveArgumentsAsTheyAre(t *testing.T) {
	for _, name := range []string{"theta", "k4", "k33", "cube", "petersen", "bridge", "tietze", "flower5"} {
		g, allOfG := behindEdges(named(t, name))
		edges := slices.Clone(allOfG)
		for _, list := range [][]int64{numbersUpTo(len(g.Edges)), numbersUpTo(len(g.Edges) + int(g.Size)), slices.Repeat([]int64{1}, len(g.Edges))} {
			list, all := behind(list)
			before := slices.Clone(all)
			for _, call := range defectCalls() {
				call.run(g, defectArguments{e: 0, f: 1, k: 4, d: 1, list: list})
			}
			if !slices.Equal(all, before) || !slices.Equal(allOfG, edges) {
				t.Errorf("%s: arguments have become %v, %v", name, allOfG, all)
			}
		}
		weak, _ := impl.WeakSet(g)
		list, _ := impl.CircularOf(g, 12, 3)
		fill(weak)
		fill(list)
		if !slices.Equal(allOfG, edges) {
			t.Errorf("%s: results share memory with %v", name, allOfG)
		}
	}
}

func TestDefectsShareNoMemory(t *testing.T) {
	for _, g := range []impl.Graph{named(t, "theta"), named(t, "petersen"), named(t, "bridge"), parsed(t, threeBridges), thetas(t, 5)} {
		checkApart(t, func() [][]int64 {
			weak, _ := impl.WeakSet(g)
			again, _ := impl.WeakSet(g)
			list, _ := impl.CircularOf(g, 12, 3)
			other, _ := impl.CircularOf(g, 4, 1)
			return [][]int64{weak, again, list, other}
		})
	}
}
