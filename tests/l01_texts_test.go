package tests

import (
	"slices"
	"strings"
	"testing"

	"loop.example/g01329/impl"
)

// namedTexts are the texts of the graphs with names, worked out from the document without the
// program.
func namedTexts() map[string]string {
	return map[string]string{
		"theta":    "2:0-1,0-1,0-1",
		"k4":       "4:0-1,0-2,0-3,1-2,1-3,2-3",
		"k33":      "6:0-3,0-4,0-5,1-3,1-4,1-5,2-3,2-4,2-5",
		"prism":    "6:0-1,0-2,0-3,1-2,1-4,2-5,3-4,3-5,4-5",
		"cube":     "8:0-1,0-2,0-4,1-3,1-5,2-3,2-6,3-7,4-5,4-6,5-7,6-7",
		"petersen": "10:0-1,0-4,0-5,1-2,1-6,2-3,2-7,3-4,3-8,4-9,5-7,5-8,6-8,6-9,7-9",
		"tietze":   "12:0-1,0-10,0-11,1-2,1-6,2-3,2-7,3-4,3-8,4-9,4-10,5-7,5-8,5-11,6-8,6-9,7-9,10-11",
		"flower5": "20:0-5,0-10,0-15,1-6,1-11,1-16,2-7,2-12,2-17,3-8,3-13,3-18,4-9,4-14,4-19,5-6,5-9,6-7,7-8,8-9," +
			"10-11,10-19,11-12,12-13,13-14,14-15,15-16,16-17,17-18,18-19",
		"bridge": "10:0-2,0-3,0-4,1-2,1-3,1-4,2-3,4-9,5-7,5-8,5-9,6-7,6-8,6-9,7-8",
	}
}

func TestNamedGraphs(t *testing.T) {
	for _, name := range names() {
		want := namedTexts()[name]
		text, code := impl.GraphText(named(t, name))
		if text != want || code != impl.ErrNone {
			t.Errorf("GraphText(%s) = %q, %d", name, text, code)
		}
		g, code := impl.ParseGraph(want)
		if !sameGraph(g, named(t, name)) || code != impl.ErrNone {
			t.Errorf("ParseGraph(%q) = %v, %d", want, g, code)
		}
	}
}

func TestNamesOfNoGraph(t *testing.T) {
	for _, name := range []string{"", " ", "k", "k3", "k5", "K4", "k4 ", " k4", "k4\n", "k44", "Theta", "thet", "thetaa", "flower",
		"flower3", "flower4", "flower7", "Petersen", "petersen ", "cubes", "bridges", "prisms", "2:0-1,0-1,0-1", "k4\x00"} {
		g, code := impl.NamedGraph(name)
		if code != impl.ErrNotFound || !isZeroGraph(g) {
			t.Errorf("NamedGraph(%q) = %v, %d", name, g, code)
		}
	}
}

func TestTextsOfNoGraph(t *testing.T) {
	for _, text := range []string{
		"", ":", "-", ",", " ", "0", "0:", "2", "2:", "theta",
		"2:0-1", "2:0-1,0-1", "2:0-1,0-1,0-1,0-1", "2:0-1,0-1,0-1,", "2:,0-1,0-1,0-1", "2:0-1,,0-1,0-1",
		"2:0-1,0-1,1-0", "2:1-0,1-0,1-0", "2:0-0,0-1,1-1", "2:0-1,0-1,0-2", "2:0-1,0-1,-1-0",
		"02:0-1,0-1,0-1", "+2:0-1,0-1,0-1", "-2:0-1,0-1,0-1", " 2:0-1,0-1,0-1", "2 :0-1,0-1,0-1", "\n2:0-1,0-1,0-1", "2.0:0-1,0-1,0-1",
		"2: 0-1,0-1,0-1", "2:0-1, 0-1,0-1", "2:0-1 ,0-1,0-1", "2:0 -1,0-1,0-1", "2:0- 1,0-1,0-1", "2:0-1,0-1,0-1 ", "2:0-1,0-1,0-1\n",
		"2:0-1,0-1,0-1x", "2:0-1,0-1,0-1:", "2:0-1,0-1,0-1-", "2:0-1,0-1,0-1\x00", "2::0-1,0-1,0-1", "2:0--1,0-1,0-1", "2:0-1-1,0-1,0-1",
		"2:00-1,0-1,0-1", "2:0-01,0-1,0-1", "2:0-1,0-1,0-01", "2:+0-1,0-1,0-1", "2:0-+1,0-1,0-1", "2:-0-1,0-1,0-1", "2:0-1,0-1,00-1",
		"2;0-1,0-1,0-1", "2:0-1;0-1;0-1", "2:0,1-0,1-0,1", "2:0_1,0_1,0_1", "2:0-1.0-1.0-1", "2:0-1,0-1,0-0x1", "2:0-1,0-1,0-1_0", "2:0−1,0−1,0−1",
		"0-1,0-1,0-1", ":0-1,0-1,0-1", "2,0-1,0-1,0-1", "2:0-1,0-1,0-1,2:0-1,0-1,0-1", "2:0-1,0-1,0-1 2:0-1,0-1,0-1", "x:0-1,0-1,0-1",
		"1:0-0", "3:0-1,0-1,0-1", "3:0-1,0-1,0-2,1-2", "4:0-1,0-1,0-1", "0:0-1,0-1,0-1",
		"4:0-2,0-1,0-3,1-2,1-3,2-3", "4:0-1,0-2,0-3,1-2,1-3,3-2", "4:0-1,0-2,0-3,1-2,2-3,1-3", "4:0-1,0-2,0-3,1-2,1-3,2-4",
		"4:0-1,0-1,0-2,0-3,1-2,2-3", "4:0-1,0-2,0-3,1-2,1-3,2-2", "4:0-1,0-1,0-1,0-2,2-3,2-3", "4:0-1,0-2,0-3,1-2,1-3",
		"18446744073709551618:0-1,0-1,0-1", "2:0-18446744073709551617,0-1,0-1", "2:18446744073709551616-1,0-1,0-1",
		"9223372036854775807:0-1,0-1,0-1", "9223372036854775808:0-1,0-1,0-1", "2:0-9223372036854775808,0-1,0-1",
		"99999999999999999999999999999999999999:0-1,0-1,0-1",
		textOf(cubicRing(22)), textOf(cubicLadder(22)),
		strings.Repeat("0-1,", 100000), strings.Repeat("9", 100000) + ":0-1,0-1,0-1", "2:0-1,0-1,0-1" + strings.Repeat(" ", 100000),
	} {
		g, code := impl.ParseGraph(text)
		if code != impl.ErrSyntax || !isZeroGraph(g) {
			t.Errorf("ParseGraph(%.60q) = %v, %d", text, g, code)
		}
	}
}

func TestTextsAtTheLimits(t *testing.T) {
	for _, g := range []impl.Graph{cubicRing(20), cubicLadder(20), cubicLadder(2), cubicRing(4)} {
		text, code := impl.GraphText(g)
		if text != textOf(g) || code != impl.ErrNone {
			t.Errorf("GraphText(%v) = %q, %d", g, text, code)
		}
		again, code := impl.ParseGraph(text)
		if !sameGraph(again, g) || code != impl.ErrNone {
			t.Errorf("ParseGraph(%q) = %v, %d", text, again, code)
		}
	}
}

// Each text that is parsed is the one that its graph is written as, however it was come by.
func TestTextsWithOneByteChanged(t *testing.T) {
	for _, name := range names() {
		text := namedTexts()[name]
		for i := range len(text) {
			checkText(t, text[:i])
			checkText(t, text[i+1:])
			checkText(t, text[:i]+text[i+1:])
			for _, b := range "0123456789-,:+ x\n" {
				checkText(t, text[:i]+string(b)+text[i:])
				checkText(t, text[:i]+string(b)+text[i+1:])
				checkText(t, text+string(b))
			}
		}
	}
}

// checkText compares what ParseGraph makes of a text with what a reader of the tests' own does.
func checkText(t *testing.T, text string) {
	t.Helper()
	g, code := impl.ParseGraph(text)
	want, ok := readText(text)
	if ok && (code != impl.ErrNone || !sameGraph(g, want)) || !ok && (code != impl.ErrSyntax || !isZeroGraph(g)) {
		t.Errorf("ParseGraph(%q) = %v, %d", text, g, code)
	}
}

// readText reads a text of a graph byte by byte.
func readText(text string) (impl.Graph, bool) {
	at, fine := 0, true
	number := func(end byte) int64 {
		from, x := at, int64(0)
		for at < len(text) && '0' <= text[at] && text[at] <= '9' && at < from+4 {
			x = 10*x + int64(text[at]-'0')
			at++
		}
		fine = fine && at > from && (text[from] != '0' || at == from+1)
		if end != 0 {
			fine = fine && at < len(text) && text[at] == end
			at++
		}
		return x
	}
	g := impl.Graph{Size: number(':')}
	count := 3 * g.Size / 2
	fine = fine && 2 <= g.Size && g.Size <= 20 && g.Size%2 == 0
	degrees := map[int64]int{}
	for i := int64(0); fine && i < count; i++ {
		end := byte(',')
		if i == count-1 {
			end = 0
		}
		a := number('-')
		b := number(end)
		degrees[a]++
		degrees[b]++
		g.Edges = append(g.Edges, impl.Edge{a, b})
		fine = fine && a < b && b < g.Size
	}
	for v := range g.Size {
		fine = fine && degrees[v] == 3
	}
	fine = fine && at == len(text) && slices.Equal(g.Edges, sorted(g.Edges))
	return g, fine
}
