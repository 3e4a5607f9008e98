package tests

import (
	"slices"
	"strings"
	"testing"

	"loop.example/g01329/impl"
)

type badDesk struct {
	why string
	d   impl.Desk
}

// noDesks returns what is not a desk, each for one reason.
func noDesks(t *testing.T) []badDesk {
	t.Helper()
	list := []badDesk{
		{"zero value", impl.Desk{}},
		{"colouring of another graph", deskOf(t, "k4", "0 1 2", "")},
		{"colouring of another graph with as many edges", deskOf(t, twoDoubles, "0 1 2 2 1 1", "")},
		{"matching of another graph", deskOf(t, "k4", "", "0")},
		{"matching of another graph with as many edges", deskOf(t, twoDoubles, "", "0 3")},
		{"colouring where none is", deskOf(t, "petersen", "0 1 2 1 2 0 1 2 1 0 0 2 1 2 0", "")},
		{"matching where none is", deskOf(t, threeBridges, "", "0 3 4 7 11")},
		{"colouring as the matching", deskOf(t, "theta", "", "0 1 2")},
		{"matching as the colouring", deskOf(t, "theta", "1", "")},
	}
	for _, bad := range badGraphs() {
		list = append(list, badDesk{bad.why, impl.Desk{Graph: bad.g}}, badDesk{bad.why, impl.Desk{Graph: bad.g, Colouring: []int64{0, 1, 2, 2, 1, 0}, Matching: []int64{0, 5}}})
	}
	for _, name := range []string{"theta", "k4", "cube", twoDoubles} {
		good := fullDesk(t, graphOf(t, name))
		for _, c := range spoiled(good.Colouring) {
			if len(c) > 0 {
				list = append(list, badDesk{"no colouring", impl.Desk{Graph: good.Graph, Colouring: c}}, badDesk{"no colouring, but a matching", impl.Desk{Graph: good.Graph, Colouring: c, Matching: good.Matching}})
			}
		}
		for _, matching := range noMatchings(int64(len(good.Graph.Edges)), good.Matching) {
			if len(matching) > 0 {
				list = append(list, badDesk{"no matching", impl.Desk{Graph: good.Graph, Matching: matching}}, badDesk{"no matching, but a colouring", impl.Desk{Graph: good.Graph, Colouring: good.Colouring, Matching: matching}})
			}
		}
	}
	return list
}

// What is not a desk has no output, not even that of a wrong line, and is not reset.
func TestWhatIsNoDesk(t *testing.T) {
	var lines []string
	for command := range refForms() {
		lines = append(lines, command)
	}
	lines = append(lines, "", " ", "fly", "name k4", "graph 2:0-1,0-1,0-1", "open 0", "cut 0", "renumber 0 1 2 3", "colour 0 1 2 2 1 0", "match 0 5", "stabiliser 0", "chain 0 1", "colour", "match")
	for _, bad := range noDesks(t) {
		if impl.IsDesk(bad.d) {
			t.Errorf("%s: IsDesk(%v)", bad.why, bad.d)
		}
		for _, line := range lines {
			if d, output := impl.RunLine(bad.d, line); !isZeroDesk(d) || output != "" {
				t.Errorf("%s: %q on %v = %v, %q", bad.why, line, bad.d, d, output)
			}
		}
	}
}

// checkWrong looks whether a line is wrong on a desk.
func checkWrong(t *testing.T, d impl.Desk, line string) {
	t.Helper()
	checkLine(t, d, line, d, "error")
}

// goodLines returns all lines that are known not to be wrong, with their desks.
func goodLines() []lineCase {
	return append(slices.Concat(graphLines(), colouringLines(), matchingLines(), askingLines()), lineCase{"theta", "0 1 2", "1", "reset", "ok"})
}

func TestLinesThatAreNone(t *testing.T) {
	for _, d := range []impl.Desk{impl.NewDesk(), deskOf(t, "k4", "0 1 2 2 1 0", "0 5"), deskOf(t, "theta", "2 1 0", ""), deskOf(t, "petersen", "", "0 5 9 10 12")} {
		for _, line := range []string{"", " ", "  ", "\t", "\n", "\x00", "\xff", "0", "1 2", "fly", "fly 0", "none", "ok", "error", "yes", "G", "C", "M", "TEXT", "theta", "k4", "4:0-1,0-2,0-3,1-2,1-3,2-3",
			"show, look, see", "show,", "oddness,", "oddness, cover", "show look", "help", "quit", "exit", "color 0 1 2 2 1 0", "bond", "vertex", "shrink", "open", "name", "graph", "dot"} {
			checkWrong(t, d, line)
		}
	}
}

// Each line that is not wrong becomes wrong if a word is missing, or is one too many, even an empty one, or if the command or a blank is
// spelt in another way.
func TestLinesThatAreNearlyGood(t *testing.T) {
	for _, c := range goodLines() {
		d := deskOf(t, c.graph, c.colouring, c.matching)
		command, words, _ := strings.Cut(c.line, " ")
		lines := []string{
			c.line + " ", " " + c.line, c.line + "  ", "  " + c.line, c.line + " 0", c.line + " 00", "0 " + c.line, c.line + " theta", c.line + " " + c.line,
			c.line + "\n", c.line + "\t", c.line + "\r", c.line + "\x00", "\n" + c.line, "\t" + c.line, "\ufeff" + c.line, c.line + "\u00a0",
			strings.ToUpper(command) + c.line[len(command):], strings.ToUpper(command[:1]) + c.line[1:],
			command + "x" + c.line[len(command):], command[:len(command)-1] + c.line[len(command):], command[1:] + c.line[len(command):], "x" + c.line, command + "s" + c.line[len(command):],
		}
		if words != "" {
			lines = append(lines, command, command+" ", command+"  "+words, c.line[:strings.LastIndex(c.line, " ")], c.line[:strings.LastIndex(c.line, " ")+1],
				strings.ReplaceAll(c.line, " ", "\t"), strings.ReplaceAll(c.line, " ", ","), command+words, strings.ReplaceAll(c.line, " ", "  "), command+"\u00a0"+words)
		}
		for _, line := range lines {
			checkWrong(t, d, line)
			checkWrong(t, fullDesk(t, d.Graph), line)
		}
	}
}

// noNumbersLike returns words that are no numbers as the chapter tells them, many of them made of a number.
func noNumbersLike(x string) []string {
	return []string{
		"", "+" + x, "-" + x, "-0", "+0", "0" + x, "00", "000000000", "0000000000", "00" + x, "01", x + ".", x + ".0", x + ",", x + "e0", "0x" + x, "0b" + x, "0o" + x, "0_" + x, x + "_", x + "x", "x" + x, "x", "N", "none",
		x + "\n", x + "\t", "\n" + x, x + "\x00", x + "\xff", "\u0660", "\u0661", "\uff10", "\u00b2", "'" + x + "'", "~0",
		"1000000000", "9999999999", "4294967296", "4294967297", "9223372036854775807", "9223372036854775808", "18446744073709551616", "18446744073709551617", "-18446744073709551615", strings.Repeat("9", 100), strings.Repeat("0", 100) + x,
	}
}

// In each line that is not wrong, each number is spelt in ways that make it none.
func TestNumbersThatAreNone(t *testing.T) {
	checked := 0
	for _, c := range goodLines() {
		d := deskOf(t, c.graph, c.colouring, c.matching)
		words := strings.Split(c.line, " ")
		for i, word := range words {
			if i == 0 || strings.Trim(word, "0123456789") != "" {
				continue
			}
			for _, other := range noNumbersLike(word) {
				line := slices.Clone(words)
				line[i] = other
				checkWrong(t, d, strings.Join(line, " "))
				checked++
			}
		}
	}
	if checked < 4000 {
		t.Error("numbers that are none:", checked)
	}
}

// wrongOnGraphs are lines for which a function returns another code than ErrNone, whatever the colouring and the matching are.
func wrongOnGraphs() map[string][]string {
	return map[string][]string{
		"theta": {"cut 0", "cut 3", "shrink 0 1 1", "shrink 0 1 2", "open 2", "bridge 0 0", "bridge 0 3", "dot 0 1 k4 0 1", "dot 0 2 theta 0 1", "renumber 0", "renumber 1 1", "renumber 0 1 2", "renumber 2 0", "stabiliser 2", "circular 2 1"},
		"k4": {"graph", "graph ", "graph k4", "graph 2:0-1,0-1", "graph 2:0-1,0-1,1-0", "graph 02:0-1,0-1,0-1", "graph 2:1-0,0-1,0-1", "graph 4:0-1,0-2,0-3,1-3,1-2,2-3", "graph 3:0-1,0-1,0-2,1-2", "graph 0:",
			"name", "name ", "name K4", "name k5", "name none", "name 4:0-1,0-2,0-3,1-2,1-3,2-3", "name k4\n",
			"open 4", "open 999999999", "shrink 0 1 4", "shrink 0 0 1", "shrink 0 1 1", "bridge 0 6", "bridge 6 0", "bridge 3 3", "cut 6", "cut 999999999",
			"dot 0 5 k5 0 1", "dot 0 5  0 1", "dot 0 5 none 0 1", "dot 0 5 2:0-1,0-1,0-1 0 1", "dot 0 5 4 0 1", "dot 0 1 k4 0 1", "dot 0 0 k4 0 1", "dot 0 6 k4 0 1", "dot 6 0 k4 0 1", "dot 0 5 k4 0 0", "dot 0 5 k4 0 4", "dot 0 5 k4 4 0", "dot 0 5 theta 0 1", "dot 0 5 cube 0 3", "dot 0 5 flower5 0 5",
			"dot 0 5 0 1 k4", "dot k4 0 5 0 1", "dot 0 5 0 k4 1",
			"renumber", "renumber 0 1 2", "renumber 0 1 2 2", "renumber 1 2 3 4", "renumber 0 1 2 3 4", "renumber 0 1 2 999999999",
			"colour", "colour 0", "colour 0 1 2", "colour 0 1 2 2 1", "colour 0 1 2 2 1 0 0", "colour 0 1 2 2 1 3", "colour 0 1 2 2 0 1", "colour 1 2 3 3 2 1", "colour 0 0 0 0 0 0",
			"match", "match 0", "match 5 0", "match 0 1", "match 0 0", "match 0 6", "match 0 5 5", "match 0 1 5",
			"exchange 6 0", "exchange 0 3", "chain 6 0", "chain 0 3", "cyclic", "circular 1 1", "circular 2 1", "circular 3 0", "circular 3 2", "circular 15 1", "circular 0 0", "circular 5 2", "circular 999999999 1", "stabiliser 4", "stabiliser 999999999"},
		"petersen": {"first", "paint", "exchange 0 1", "chain 0 1", "chains", "colour 0 1 2 2 1 0", "cyclic", "circular 3 1", "circular 7 2", "shrink 0 1 2", "dot 0 14 flower5 0 5", "renumber 0 1 2 3 4 5 6 7 8 8"},
		"bridge":   {"first", "paint", "exchange 0 1", "chain 0 1", "chains", "cover", "shrink 0 1 2", "cut 99", "circular 3 1"},
		"tietze":   {"strong", "total", "circular 3 1", "circular 4 1", "dot 0 17 petersen 0 2", "dot 0 17 tietze 0 1"},
		"flower5":  {"open 0", "open 19", "bridge 0 1", "dot 0 29 k4 0 1", "first", "resistance", "strong", "total", "circular 4 1", "cyclic"},
		twoDoubles: {"cut 0", "cut 2", "shrink 0 1 2", "dot 0 1 k4 0 1"},
		// These have no matching, more than MaxMatchings, no colouring with few colours, or several parts.
		threeBridges:                {"best", "oddness", "cover", "paint", "first", "match 0 3 4 7 11"},
		sixtyOneMatchings:           {"cover", "resistance", "strong", "total", "circular 3 1"},
		"4:0-1,0-1,0-1,2-3,2-3,2-3": {"cyclic", "symmetries", "stabiliser 0", "stabiliser 4"},
	}
}

func TestLinesWithOtherCodes(t *testing.T) {
	for name, lines := range wrongOnGraphs() {
		g := graphOf(t, name)
		for _, line := range lines {
			checkWrong(t, impl.Desk{Graph: g}, line)
			checkWrong(t, fullDesk(t, g), line)
		}
	}
}

// Where the colouring or the matching is empty, nothing is made of it. Where there is one, wrong lines leave it as it is.
func TestLinesThatNeedColouringsAndMatchings(t *testing.T) {
	for _, c := range []lineCase{
		{"k4", "", "", "exchange 0 1", ""},
		{"k4", "", "0 5", "exchange 0 0", ""},
		{"k4", "", "", "chain 0 1", ""},
		{"k4", "", "0 5", "chain 5 2", ""},
		{"k4", "", "", "chains", ""},
		{"k4", "", "0 5", "chains", ""},
		{"k4", "", "", "paint", ""},
		{"k4", "0 1 2 2 1 0", "", "paint", ""},
		{"k4", "", "", "cycles", ""},
		{"k4", "0 1 2 2 1 0", "", "cycles", ""},
		{"k4", "0 1 2 2 1 0", "0 5", "exchange 0 0", ""},
		{"k4", "0 1 2 2 1 0", "0 5", "exchange 2 2", ""},
		{"k4", "0 1 2 2 1 0", "0 5", "exchange 0 3", ""},
		{"k4", "0 1 2 2 1 0", "0 5", "exchange 6 1", ""},
		{"k4", "0 1 2 2 1 0", "0 5", "chain 0 0", ""},
		{"k4", "0 1 2 2 1 0", "0 5", "chain 1 1", ""},
		{"k4", "0 1 2 2 1 0", "0 5", "chain 6 1", ""},
		{"k4", "0 1 2 2 1 0", "0 5", "chain 0", ""},
		{"prism", "", "2 4 5", "paint", ""},
		{"petersen", "", "0 5 9 10 12", "paint", ""},
		{"petersen", "", "0 5 9 10 12", "first", ""},
		{"petersen", "", "0 5 9 10 12", "match 0 5 9 10 13", ""},
		{"petersen", "", "0 5 9 10 12", "colour 0 1 2 1 2 0 1 2 1 0 0 2 1 2 0", ""},
		{twoDoubles, "0 1 2 2 0 1", "2 3", "colour 0 1 2 2 1 1", ""},
		{twoDoubles, "0 1 2 2 0 1", "2 3", "match 0 3", ""},
	} {
		checkWrong(t, deskOf(t, c.graph, c.colouring, c.matching), c.line)
	}
}

// Lists that are nearly colourings or matchings are not put on the desk.
func TestListsThatAreNone(t *testing.T) {
	for _, g := range []impl.Graph{named(t, "theta"), named(t, "k4"), named(t, "cube"), cubicLadder(20)} {
		d := fullDesk(t, g)
		for _, c := range spoiled(d.Colouring) {
			checkWrong(t, d, strings.TrimSuffix("colour "+refList(c), " none"))
		}
		for _, matching := range noMatchings(int64(len(g.Edges)), d.Matching) {
			checkWrong(t, d, strings.TrimSuffix("match "+refList(matching), " none"))
		}
		for _, list := range noRenumberings(g.Size) {
			checkWrong(t, d, strings.TrimSuffix("renumber "+refList(list), " none"))
		}
	}
}

// spareDesk returns a desk with something behind its lists, and all of that.
func spareDesk(d impl.Desk) (impl.Desk, []impl.Edge, []int64, []int64) {
	g, edges := behindEdges(d.Graph)
	c, colours := behind(d.Colouring)
	matching, numbers := behind(d.Matching)
	return impl.Desk{Graph: g, Colouring: c, Matching: matching}, edges, colours, numbers
}

// fillDesk writes all that belongs to a desk, even behind it.
func fillDesk(d impl.Desk) {
	fillEdges(d.Graph)
	fill(d.Colouring)
	fill(d.Matching)
}

// Desks stay as they are, and those that are returned share no memory with them or with what a later call returns, behind wrong lines too.
func TestConsoleLeavesDesksAsTheyAre(t *testing.T) {
	for _, c := range append(goodLines(), lineCase{"k4", "0 1 2 2 1 0", "0 5", "fly", "error"}, lineCase{"k4", "", "0 5", "exchange 0 1", "error"}, lineCase{"k4", "0 1 2 2 1 0", "", "name", "error"}) {
		for _, whole := range []impl.Desk{deskOf(t, c.graph, c.colouring, c.matching), fullDesk(t, graphOf(t, c.graph))} {
			d, edges, colours, numbers := spareDesk(whole)
			wantedEdges, wantedColours, wantedNumbers := slices.Clone(edges), slices.Clone(colours), slices.Clone(numbers)
			after, output := impl.RunLine(d, c.line)
			want, _ := impl.RunLine(whole, c.line)
			impl.IsDesk(d)
			checkDeskApart(t, after, want)
			again, repeated := impl.RunLine(d, c.line)
			if !slices.Equal(edges, wantedEdges) || !slices.Equal(colours, wantedColours) || !slices.Equal(numbers, wantedNumbers) {
				t.Fatalf("%q: the desk has become %v, %v, %v", c.line, edges, colours, numbers)
			}
			if !sameDesk(again, want) || repeated != output {
				t.Fatalf("%q keeps something: %v, %q, not %v, %q", c.line, again, repeated, want, output)
			}
		}
	}
}

// checkDeskApart writes the parts of a desk, one after the other, and looks whether that changes the others.
func checkDeskApart(t *testing.T, d impl.Desk, want impl.Desk) {
	t.Helper()
	fill(d.Matching)
	if !sameGraph(d.Graph, want.Graph) || !slices.Equal(d.Colouring, want.Colouring) {
		t.Fatalf("the matching changes others: %v, not %v", d, want)
	}
	fill(d.Colouring)
	if !sameGraph(d.Graph, want.Graph) {
		t.Fatalf("the colouring changes the graph: %v, not %v", d, want)
	}
	fillEdges(d.Graph)
}

func TestConsoleKeepsNothing(t *testing.T) {
	d := impl.NewDesk()
	fillDesk(d)
	if again := impl.NewDesk(); !sameDesk(again, deskOf(t, "k4", "", "")) {
		t.Error("NewDesk", again)
	}
	for _, text := range []string{"", "reset", "first\nbest", "name cube\nbest\npaint", "fly", "match 0 5\ncolour 0 1 2 2 1 0"} {
		outputs := impl.Console(text)
		after, _ := impl.DeskAfter(text)
		want, _ := impl.DeskAfter(text)
		checkDeskApart(t, after, want)
		if again, ok := impl.DeskAfter(text); !sameDesk(again, want) || !ok || impl.Console(text) != outputs {
			t.Errorf("%q keeps something: %v, not %v", text, again, want)
		}
	}
}
