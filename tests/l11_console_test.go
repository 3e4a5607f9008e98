package tests

import (
	"slices"
	"strconv"
	"strings"
	"testing"

	"loop.example/g01329/impl"
)

// graphOf returns the graph with a name or, if there is a colon in it, with a text.
func graphOf(t *testing.T, name string) impl.Graph {
	t.Helper()
	if strings.Contains(name, ":") {
		return parsed(t, name)
	}
	return named(t, name)
}

// numbersOf returns the numbers of a text with blanks between them.
func numbersOf(t *testing.T, text string) []int64 {
	t.Helper()
	var list []int64
	for _, word := range strings.Fields(text) {
		x, err := strconv.ParseInt(word, 10, 64)
		if err != nil {
			t.Fatal(err)
		}
		list = append(list, x)
	}
	return list
}

// deskOf returns a desk of a graph, and of a colouring and a matching told by texts, or none.
func deskOf(t *testing.T, name string, colouring string, matching string) impl.Desk {
	t.Helper()
	return impl.Desk{Graph: graphOf(t, name), Colouring: numbersOf(t, colouring), Matching: numbersOf(t, matching)}
}

// fullDesk returns a desk of a graph with a colouring and a matching, as far as there are some.
func fullDesk(t *testing.T, g impl.Graph) impl.Desk {
	t.Helper()
	c, _ := impl.FirstColouring(g)
	matching, _ := impl.BestMatching(g)
	return impl.Desk{Graph: g, Colouring: c, Matching: matching}
}

func sameDesk(a impl.Desk, b impl.Desk) bool {
	return sameGraph(a.Graph, b.Graph) && slices.Equal(a.Colouring, b.Colouring) && slices.Equal(a.Matching, b.Matching)
}

func isZeroDesk(d impl.Desk) bool {
	return isZeroGraph(d.Graph) && len(d.Colouring) == 0 && len(d.Matching) == 0
}

// checkLine looks at the output of a line on a desk, and at the desk behind it.
func checkLine(t *testing.T, d impl.Desk, line string, want impl.Desk, output string) {
	t.Helper()
	after, got := impl.RunLine(d, line)
	if got != output || !sameDesk(after, want) {
		t.Errorf("%q on %v = %v, %q, not %v, %q", line, d, after, got, want, output)
	}
}

// A lineCase has a line, the desk on which it is run, and its output.
type lineCase struct {
	graph, colouring, matching string
	line, output               string
}

// graphLines are lines that give G a graph, whatever the colouring and the matching are. The outputs are worked out from the
// document.
func graphLines() []lineCase {
	const k4 = "4:0-1,0-2,0-3,1-2,1-3,2-3"
	const theta = "2:0-1,0-1,0-1"
	const prism = "6:0-1,0-2,0-3,1-2,1-4,2-5,3-4,3-5,4-5"
	const opened = "6:0-1,0-4,0-5,1-2,1-3,2-3,2-4,3-5,4-5"
	return []lineCase{
		{"k4", "", "", "graph " + theta, theta},
		{"k4", "", "", "graph " + k4, k4},
		{"theta", "", "", "graph " + leastBridge, leastBridge},
		{"petersen", "", "", "graph " + dodecahedron, dodecahedron},
		{"k4", "", "", "name theta", theta},
		{"k4", "", "", "name k4", k4},
		{"bridge", "", "", "name k33", "6:0-3,0-4,0-5,1-3,1-4,1-5,2-3,2-4,2-5"},
		{"k4", "", "", "name prism", prism},
		{"k4", "", "", "open 0", opened},
		{"k4", "", "", "open 3", "6:0-1,0-2,0-3,1-2,1-4,2-5,3-4,3-5,4-5"},
		{"theta", "", "", "open 1", "4:0-1,0-2,0-3,1-2,1-3,2-3"},
		{opened, "", "", "shrink 0 4 5", k4},
		{opened, "", "", "shrink 5 0 4", k4},
		{"prism", "", "", "shrink 3 4 5", k4},
		{"k4", "", "", "shrink 1 2 3", theta},
		{"bridge", "", "", "shrink 0 2 3", "8:0-1,0-1,0-2,1-2,2-7,3-5,3-6,3-7,4-5,4-6,4-7,5-6"},
		{"bridge", "", "", "shrink 8 6 7", "8:0-2,0-3,0-4,1-2,1-3,1-4,2-3,4-7,5-6,5-6,5-7,6-7"},
		{"k4", "", "", "bridge 0 5", "6:0-2,0-3,0-4,1-2,1-3,1-4,2-5,3-5,4-5"},
		{"k4", "", "", "bridge 5 0", "6:0-2,0-3,0-5,1-2,1-3,1-5,2-4,3-4,4-5"},
		{"theta", "", "", "bridge 0 2", "4:0-1,0-2,0-3,1-2,1-3,2-3"},
		{"6:0-2,0-3,0-4,1-2,1-3,1-4,2-5,3-5,4-5", "", "", "cut 8", k4},
		{"k4", "", "", "cut 0", theta},
		{"prism", "", "", "cut 0", k4},
		{"prism", "", "", "cut 2", "4:0-1,0-1,0-2,1-3,2-3,2-3"},
		{"k4", "", "", "dot 0 5 k4 0 1", "6:0-2,0-3,0-4,1-2,1-3,1-5,2-4,3-5,4-5"},
		{"k4", "", "", "dot 0 5 k33 0 3", "8:0-2,0-3,0-6,1-2,1-3,1-7,2-4,3-5,4-6,4-7,5-6,5-7"},
		{"k4", "", "", "dot 5 0 k33 0 3", "8:0-2,0-3,0-4,1-2,1-3,1-5,2-6,3-7,4-6,4-7,5-6,5-7"},
		{"k4", "", "", "dot 0 5 k33 3 0", "8:0-2,0-3,0-4,1-2,1-3,1-5,2-6,3-7,4-6,4-7,5-6,5-7"},
		{"k4", "", "", "renumber 1 0 3 2", k4},
		{"prism", "", "", "renumber 3 0 1 2 4 5", "6:0-1,0-3,0-4,1-3,1-5,2-3,2-4,2-5,4-5"},
		{"prism", "", "", "renumber 1 2 3 0 4 5", "6:0-1,0-4,0-5,1-2,1-3,2-3,2-4,3-5,4-5"},
		{"theta", "", "", "renumber 1 0", theta},
	}
}

// colouringLines are lines that put a colouring on the desk, and out. The colourings of the graphs are known from the document's chapters:
// k4 has one normal colouring, and twoDoubles has two.
func colouringLines() []lineCase {
	return []lineCase{
		{"k4", "", "", "colour 0 1 2 2 1 0", "0 1 2 2 1 0"},
		{"k4", "0 1 2 2 1 0", "1 4", "colour 2 0 1 1 0 2", "2 0 1 1 0 2"},
		{"theta", "", "1", "colour 2 1 0", "2 1 0"},
		{twoDoubles, "", "", "colour 1 0 2 2 0 1", "1 0 2 2 0 1"},
		{"k4", "", "", "first", "0 1 2 2 1 0"},
		{"k4", "2 1 0 0 1 2", "2 3", "first", "0 1 2 2 1 0"},
		{twoDoubles, "1 0 2 2 1 0", "", "first", "0 1 2 2 0 1"},
		{"k4", "0 1 2 2 1 0", "", "exchange 0 1", "1 0 2 2 0 1"},
		{"k4", "0 1 2 2 1 0", "0 5", "exchange 2 0", "2 1 0 0 1 2"},
		{"k4", "1 0 2 2 0 1", "0 5", "exchange 0 0", "0 1 2 2 1 0"},
		{twoDoubles, "0 1 2 2 0 1", "", "exchange 0 1", "1 0 2 2 0 1"},
		{twoDoubles, "0 1 2 2 0 1", "", "exchange 5 0", "0 1 2 2 1 0"},
		{"theta", "0 1 2", "", "exchange 1 2", "0 2 1"},
		{"k4", "", "0 5", "paint", "0 1 2 2 1 0"},
		{"k4", "", "1 4", "paint", "1 0 2 2 0 1"},
		{"k4", "0 1 2 2 1 0", "2 3", "paint", "1 2 0 0 2 1"},
		{"theta", "2 1 0", "1", "paint", "1 0 2"},
	}
}

// matchingLines are lines that put a matching on the desk, and out.
func matchingLines() []lineCase {
	return []lineCase{
		{"k4", "", "", "match 0 5", "0 5"},
		{"k4", "0 1 2 2 1 0", "0 5", "match 2 3", "2 3"},
		{"theta", "0 1 2", "", "match 2", "2"},
		{"prism", "", "", "match 2 3 8", "2 3 8"},
		{"k4", "", "", "best", "0 5"},
		{"k4", "0 1 2 2 1 0", "2 3", "best", "0 5"},
		{"prism", "", "1 4 7", "best", "0 5 6"},
		{"petersen", "", "", "best", "0 5 9 10 12"},
		{"cube", "", "", "best", "0 5 8 11"},
	}
}

// askingLines are lines that only put something out.
func askingLines() []lineCase {
	return slices.Concat(linesOfDesks(), linesOfColourings(), linesOfMatchings(), linesOfGraphs(), linesOfNumbers())
}

func linesOfDesks() []lineCase {
	return []lineCase{
		{"k4", "", "", "show", "4:0-1,0-2,0-3,1-2,1-3,2-3"},
		{"theta", "0 1 2", "1", "show", "2:0-1,0-1,0-1"},
		{"k4", "", "", "look", "none"},
		{"k4", "", "0 5", "look", "none"},
		{"k4", "1 0 2 2 0 1", "0 5", "look", "1 0 2 2 0 1"},
		{"k4", "", "", "see", "none"},
		{"k4", "1 0 2 2 0 1", "", "see", "none"},
		{"k4", "1 0 2 2 0 1", "1 4", "see", "1 4"},
		{"theta", "", "2", "see", "2"},
	}
}

func linesOfColourings() []lineCase {
	return []lineCase{
		{"k4", "0 1 2 2 1 0", "", "chain 0 1", "0 1 4 5"},
		{"k4", "0 1 2 2 1 0", "2 3", "chain 2 0", "0 2 3 5"},
		{twoDoubles, "0 1 2 2 0 1", "", "chain 0 1", "0 1"},
		{twoDoubles, "0 1 2 2 0 1", "", "chain 5 0", "4 5"},
		{twoDoubles, "0 1 2 2 0 1", "", "chain 3 1", "1 2 3 5"},
		{"k4", "0 1 2 2 1 0", "", "chains", "1 1 1"},
		{twoDoubles, "0 1 2 2 0 1", "", "chains", "2 1 1"},
		{twoDoubles, "2 1 0 0 1 2", "0 4", "chains", "1 1 2"},
		{"theta", "2 1 0", "", "chains", "1 1 1"},
	}
}

func linesOfMatchings() []lineCase {
	return []lineCase{
		{"k4", "", "0 5", "cycles", "4"},
		{"petersen", "", "0 5 9 10 12", "cycles", "5 5"},
		{"prism", "", "2 4 5", "cycles", "3 3"},
		{"prism", "", "1 4 7", "cycles", "6"},
		{twoDoubles, "", "2 3", "cycles", "2 2"},
		{"k4", "", "", "matchings", "3"},
		{"petersen", "", "0 5 9 10 12", "matchings", "6"},
		{threeBridges, "", "", "matchings", "0"},
		{sixtyOneMatchings, "", "", "matchings", "61"},
		{"k4", "", "", "oddness", "0"},
		{"petersen", "", "", "oddness", "2"},
		{"k4", "", "", "cover", "3"},
		{"petersen", "", "", "cover", "5"},
		{coverOfFour, "", "", "cover", "4"},
	}
}

func linesOfGraphs() []lineCase {
	return []lineCase{
		{"theta", "", "", "girth", "2"},
		{"k4", "0 1 2 2 1 0", "0 5", "girth", "3"},
		{"petersen", "", "", "girth", "5"},
		{heawood, "", "", "girth", "6"},
		{"k4", "", "", "count", "6"},
		{"cube", "", "", "count", "24"},
		{"petersen", "", "", "count", "0"},
		{"4:0-1,0-1,0-1,2-3,2-3,2-3", "", "", "count", "36"},
		{"k4", "", "", "bridges", "none"},
		{"bridge", "", "", "bridges", "7"},
		{rowOfBridges, "", "", "bridges", "4 7"},
		{threeBridges, "", "", "bridges", "0 1 2"},
		{"prism", "", "", "cyclic", "3"},
		{"cube", "", "", "cyclic", "4"},
		{"bridge", "", "", "cyclic", "1"},
		{twoDoubles, "", "", "cyclic", "2"},
		{"petersen", "", "", "snark", "yes"},
		{"flower5", "", "", "snark", "yes"},
		{"k4", "", "", "snark", "no"},
		{"tietze", "", "", "snark", "no"},
		{"k4", "", "", "resistance", "0"},
		{"petersen", "", "", "resistance", "2"},
		{"tietze", "", "", "resistance", "2"},
		{"theta", "", "", "circular 3 1", "0 1 2"},
		{"theta", "", "", "circular 9 3", "0 3 6"},
		{"theta", "", "", "circular 14 4", "0 4 8"},
		{"k4", "", "", "circular 3 1", "0 1 2 2 1 0"},
		{"k4", "", "", "circular 6 2", "0 2 4 4 2 0"},
	}
}

func linesOfNumbers() []lineCase {
	return []lineCase{
		{"theta", "", "", "strong", "3"},
		{"k4", "", "", "strong", "6"},
		{"petersen", "", "", "strong", "5"},
		{"theta", "", "", "total", "5"},
		{"k4", "", "", "total", "5"},
		{"petersen", "", "", "total", "4"},
		{"theta", "", "", "symmetries", "2"},
		{"k4", "", "", "symmetries", "24"},
		{"bridge", "", "", "symmetries", "32"},
		{frucht, "", "", "symmetries", "1"},
		{hung256, "", "", "symmetries", "256"},
		{"k4", "", "", "stabiliser 2", "6"},
		{"bridge", "", "", "stabiliser 4", "16"},
		{"bridge", "", "", "stabiliser 9", "16"},
		{"bridge", "", "", "stabiliser 0", "8"},
		{"petersen", "", "", "stabiliser 9", "12"},
	}
}

func TestConsoleLimits(t *testing.T) {
	if impl.MaxConsole != 4000 || impl.MaxLines != 40 {
		t.Error("MaxConsole, MaxLines", impl.MaxConsole, impl.MaxLines)
	}
}

func TestNewDesk(t *testing.T) {
	if d := impl.NewDesk(); !sameDesk(d, deskOf(t, "k4", "", "")) || !impl.IsDesk(d) {
		t.Error("NewDesk", d)
	}
}

func TestIsDesk(t *testing.T) {
	for _, d := range []impl.Desk{
		deskOf(t, "k4", "", ""),
		deskOf(t, "k4", "0 1 2 2 1 0", ""),
		deskOf(t, "k4", "2 1 0 0 1 2", ""),
		deskOf(t, "k4", "", "0 5"),
		deskOf(t, "k4", "1 0 2 2 0 1", "2 3"),
		deskOf(t, "theta", "2 0 1", "1"),
		deskOf(t, "petersen", "", "0 5 9 10 12"),
		deskOf(t, threeBridges, "", ""),
		{Graph: named(t, "k4"), Colouring: []int64{}, Matching: []int64{}},
	} {
		if !impl.IsDesk(d) {
			t.Errorf("IsDesk(%v)", d)
		}
	}
	for _, g := range goodGraphs(t) {
		for _, d := range []impl.Desk{{Graph: g}, fullDesk(t, g)} {
			if !impl.IsDesk(d) {
				t.Fatalf("IsDesk(%v)", d)
			}
		}
	}
}

// Behind a line that gives G a graph, Colouring and Matching are empty, even if the graph is the same.
func TestLinesThatGiveGraphs(t *testing.T) {
	for _, c := range graphLines() {
		want := impl.Desk{Graph: parsed(t, c.output)}
		checkLine(t, deskOf(t, c.graph, "", ""), c.line, want, c.output)
		checkLine(t, fullDesk(t, graphOf(t, c.graph)), c.line, want, c.output)
	}
	for _, name := range names() {
		want := impl.Desk{Graph: named(t, name)}
		checkLine(t, fullDesk(t, named(t, "k4")), "name "+name, want, namedTexts()[name])
		checkLine(t, fullDesk(t, named(t, name)), "graph "+namedTexts()[name], want, namedTexts()[name])
	}
}

func TestLinesThatGiveColourings(t *testing.T) {
	for _, c := range colouringLines() {
		want := deskOf(t, c.graph, c.output, c.matching)
		checkLine(t, deskOf(t, c.graph, c.colouring, c.matching), c.line, want, c.output)
	}
}

func TestLinesThatGiveMatchings(t *testing.T) {
	for _, c := range matchingLines() {
		want := deskOf(t, c.graph, c.colouring, c.output)
		checkLine(t, deskOf(t, c.graph, c.colouring, c.matching), c.line, want, c.output)
	}
}

func TestLinesThatAsk(t *testing.T) {
	for _, c := range askingLines() {
		d := deskOf(t, c.graph, c.colouring, c.matching)
		checkLine(t, d, c.line, d, c.output)
	}
}

func TestReset(t *testing.T) {
	for _, g := range goodGraphs(t) {
		checkLine(t, fullDesk(t, g), "reset", impl.NewDesk(), "ok")
		checkLine(t, impl.Desk{Graph: g}, "reset", impl.NewDesk(), "ok")
	}
}

// All commands of the chapter's list have a line that is not wrong.
func TestAllCommandsHaveLines(t *testing.T) {
	met := map[string]bool{"reset": true}
	for _, c := range slices.Concat(graphLines(), colouringLines(), matchingLines(), askingLines()) {
		met[strings.Fields(c.line)[0]] = true
	}
	if len(met) != len(refForms()) {
		t.Error("commands with lines:", met)
	}
	for command := range refForms() {
		if !met[command] {
			t.Errorf("no line with %s", command)
		}
	}
}

func TestConsole(t *testing.T) {
	const k4, theta = "4:0-1,0-2,0-3,1-2,1-3,2-3\n", "2:0-1,0-1,0-1\n"
	for _, c := range []struct {
		text, outputs string
		after         impl.Desk
	}{
		{"", "", impl.NewDesk()},
		{"\n", "", impl.NewDesk()},
		{"\n\n\n", "", impl.NewDesk()},
		{"count", "6\n", impl.NewDesk()},
		{"count\n", "6\n", impl.NewDesk()},
		{"count\ngirth", "6\n3\n", impl.NewDesk()},
		{"\ncount\n\n\ngirth\n\n", "6\n3\n", impl.NewDesk()},
		{"show\nname theta\nshow", k4 + theta + theta, deskOf(t, "theta", "", "")},
		{"first\nbest\nlook\nsee\n", "0 1 2 2 1 0\n0 5\n0 1 2 2 1 0\n0 5\n", deskOf(t, "k4", "0 1 2 2 1 0", "0 5")},
		{"match 2 3\npaint\nexchange 2 2\nlook\nsee", "2 3\n1 2 0 0 2 1\n1 0 2 2 0 1\n1 0 2 2 0 1\n2 3\n", deskOf(t, "k4", "1 0 2 2 0 1", "2 3")},
		{"first\nbest\nname theta\nlook\nsee\n", "0 1 2 2 1 0\n0 5\n" + theta + "none\nnone\n", deskOf(t, "theta", "", "")},
		{"first\nbest\nname k4\nlook\nsee\n", "0 1 2 2 1 0\n0 5\n" + k4 + "none\nnone\n", deskOf(t, "k4", "", "")},
		{"first\nname none\nlook\nbest \nsee\n", "0 1 2 2 1 0\nerror\n0 1 2 2 1 0\nerror\nnone\n", deskOf(t, "k4", "0 1 2 2 1 0", "")},
		{"name petersen\nfirst\nbest\npaint\ncycles\nreset\ncycles\nshow", namedTexts()["petersen"] + "\nerror\n0 5 9 10 12\nerror\n5 5\nok\nerror\n" + k4, impl.NewDesk()},
		{"open 0\nshrink 0 4 5\nbridge 0 5\ncut 8\ncut 0", "6:0-1,0-4,0-5,1-2,1-3,2-3,2-4,3-5,4-5\n" + k4 + "6:0-2,0-3,0-4,1-2,1-3,1-4,2-5,3-5,4-5\n" + k4 + theta, deskOf(t, "theta", "", "")},
		{" ", "error\n", impl.NewDesk()},
		{" \n  \n\n\r\n", "error\nerror\nerror\n", impl.NewDesk()},
		{"count\r\ngirth", "error\n3\n", impl.NewDesk()},
		{"none\n\xff\n\x00\ncount\x00\n", "error\nerror\nerror\nerror\n", impl.NewDesk()},
	} {
		checkConsole(t, c.text, c.outputs, c.after)
	}
}

// checkConsole looks at the outputs of a text and at the desk after it.
func checkConsole(t *testing.T, text string, outputs string, after impl.Desk) {
	t.Helper()
	if got := impl.Console(text); got != outputs {
		t.Errorf("Console(%q) = %q, not %q", text, got, outputs)
	}
	if d, ok := impl.DeskAfter(text); !ok || !sameDesk(d, after) {
		t.Errorf("DeskAfter(%q) = %v, %v, not %v", text, d, ok, after)
	}
}

// checkRefused looks whether a text is refused.
func checkRefused(t *testing.T, text string) {
	t.Helper()
	if got := impl.Console(text); got != "" {
		t.Errorf("Console of %d bytes, %q.. = %q", len(text), text[:20], got)
	}
	if d, ok := impl.DeskAfter(text); ok || !isZeroDesk(d) {
		t.Errorf("DeskAfter of %d bytes, %q.. = %v, %v", len(text), text[:20], d, ok)
	}
}

// Empty lines are counted, wherever they stand, and the last line whether or not a newline ends it.
func TestMaxLines(t *testing.T) {
	theta := deskOf(t, "theta", "", "")
	checkConsole(t, strings.Repeat("girth\n", 40), strings.Repeat("3\n", 40), impl.NewDesk())
	checkConsole(t, strings.Repeat("girth\n", 39)+"girth", strings.Repeat("3\n", 40), impl.NewDesk())
	checkConsole(t, strings.Repeat("\n", 40), "", impl.NewDesk())
	checkConsole(t, strings.Repeat("\n", 39)+"name theta", "2:0-1,0-1,0-1\n", theta)
	checkConsole(t, strings.Repeat("\n", 39)+"name theta\n", "2:0-1,0-1,0-1\n", theta)
	checkConsole(t, "name theta\n"+strings.Repeat("\n", 39), "2:0-1,0-1,0-1\n", theta)
	checkConsole(t, strings.Repeat("\ngirth\n", 20), strings.Repeat("3\n", 20), impl.NewDesk())
	checkRefused(t, strings.Repeat("girth\n", 41))
	checkRefused(t, strings.Repeat("girth\n", 40)+"girth")
	checkRefused(t, strings.Repeat("girth\n", 40)+"\n")
	checkRefused(t, strings.Repeat("girth\n", 40)+" ")
	checkRefused(t, strings.Repeat("\n", 41))
	checkRefused(t, strings.Repeat("\n", 40)+"name theta")
	checkRefused(t, strings.Repeat("\n", 40)+"name theta\n")
	checkRefused(t, "name theta\n"+strings.Repeat("\n", 40))
	checkRefused(t, strings.Repeat("\ngirth\n", 20)+"\n")
	checkRefused(t, strings.Repeat("\n", 4000))
}

// Bytes are counted, not runes, and so are newlines and those of wrong lines.
func TestMaxConsole(t *testing.T) {
	long := "girth\n" + strings.Repeat("x", 3994)
	checkConsole(t, long, "3\nerror\n", impl.NewDesk())
	checkConsole(t, long[:3999]+"\n", "3\nerror\n", impl.NewDesk())
	checkConsole(t, strings.Repeat("é", 2000), "error\n", impl.NewDesk())
	checkConsole(t, strings.Repeat(" ", 4000), "error\n", impl.NewDesk())
	checkConsole(t, strings.Repeat(strings.Repeat("x", 99)+"\n", 40), strings.Repeat("error\n", 40), impl.NewDesk())
	checkRefused(t, long+"x")
	checkRefused(t, long+"\n")
	checkRefused(t, strings.Repeat("é", 2000)+"x")
	checkRefused(t, strings.Repeat("é", 2001))
	checkRefused(t, strings.Repeat(strings.Repeat("x", 99)+"\n", 39)+strings.Repeat("x", 100)+"\n")
	checkRefused(t, strings.Repeat("girth\n", 10000))
}

// A single line has no limit, and newlines in it are bytes like others.
func TestLinesWithoutLimits(t *testing.T) {
	d := deskOf(t, "k4", "0 1 2 2 1 0", "0 5")
	for _, line := range []string{strings.Repeat("x", 5000), "colour" + strings.Repeat(" 0", 5000), "renumber 0 1 2 3" + strings.Repeat(" 4", 5000), "\n", "count\n", "\ncount",
		"count\ncount", "name theta\n", "graph 2:0-1,0-1,0-1\n", "match 0 5\n", "open\n0", strings.Repeat("\n", 50)} {
		checkLine(t, d, line, d, "error")
	}
}
