package tests

import (
	"maps"
	"math/rand"
	"slices"
	"strings"
	"sync"
	"testing"

	"loop.example/g01329/impl"
)

// drawnNumbers returns a text of k numbers from 0 to limit, which most functions refuse.
func drawnNumbers(draw *rand.Rand, k int, limit int64) string {
	var list []int64
	for range k {
		list = append(list, draw.Int63n(limit+1))
	}
	return strings.TrimSuffix(" "+refList(list), " none")
}

// drawnLine returns a line that is not wrong on many desks like d.
func drawnLine(draw *rand.Rand, d impl.Desk, commands []string) string {
	g := d.Graph
	command := commands[draw.Intn(len(commands))]
	switch command {
	case "graph":
		return "graph " + textOf(drawnGraph(draw, 2+2*draw.Int63n(5)))
	case "name":
		return "name " + names()[draw.Intn(len(names()))]
	case "open", "stabiliser":
		return command + drawnNumbers(draw, 1, g.Size)
	case "shrink":
		return "shrink" + drawnTriangle(draw, g)
	case "cut":
		return "cut" + drawnNumbers(draw, 1, int64(len(g.Edges)))
	case "bridge":
		return "bridge" + drawnNumbers(draw, 2, int64(len(g.Edges)))
	case "dot":
		name := names()[draw.Intn(len(names()))]
		h, _ := impl.NamedGraph(name)
		e := h.Edges[draw.Intn(len(h.Edges))]
		return "dot" + drawnNumbers(draw, 2, int64(len(g.Edges))) + " " + name + " " + refList([]int64{e[1], e[0]})
	case "renumber":
		return "renumber " + refList(drawnRenumbering(draw, g.Size))
	case "colour":
		return "colour " + refList(drawnColouring(draw, g))
	case "match":
		return "match " + refList(drawnMatching(draw, g))
	case "exchange", "chain":
		return command + drawnNumbers(draw, 1, int64(len(g.Edges))) + drawnNumbers(draw, 1, 2)
	case "circular":
		return "circular" + drawnNumbers(draw, 1, 9) + drawnNumbers(draw, 1, 2)
	}
	return command
}

// drawnTriangle returns the text of three vertices, often those of a triangle.
func drawnTriangle(draw *rand.Rand, g impl.Graph) string {
	a := draw.Int63n(g.Size)
	ends := refEnds(g, a)
	for _, b := range ends {
		for _, c := range ends {
			if b != c && refBetween(g, b, c) == 1 && draw.Intn(3) > 0 {
				return " " + refList([]int64{b, a, c})
			}
		}
	}
	return drawnNumbers(draw, 3, g.Size)
}

// drawnColouring returns a colouring, or some list if there is none.
func drawnColouring(draw *rand.Rand, g impl.Graph) []int64 {
	c, code := impl.FirstColouring(g)
	if code != impl.ErrNone {
		return numbersUpTo(len(g.Edges))
	}
	return renamedBy(c, renamingsOfColours()[draw.Intn(6)])
}

// drawnMatching returns a matching, or some list if there is none.
func drawnMatching(draw *rand.Rand, g impl.Graph) []int64 {
	matchings, _ := impl.MatchingsOf(g)
	if len(matchings) == 0 {
		return numbersUpTo(int(g.Size / 2))
	}
	return matchings[draw.Intn(len(matchings))]
}

// spoiledLine returns a line with a byte that is changed, taken out or put in.
func spoiledLine(draw *rand.Rand, line string) string {
	bytes := []byte(" 0123456789-:,abcnx\n\x00\xff")
	i, b := draw.Intn(len(line)), bytes[draw.Intn(len(bytes))]
	switch draw.Intn(3) {
	case 0:
		return line[:i] + line[i+1:]
	case 1:
		return line[:i] + string([]byte{b}) + line[i+1:]
	}
	return line[:i] + string([]byte{b}) + line[i:]
}

// drawnCommands returns all commands in order, those that change the desk more than once.
func drawnCommands() []string {
	commands := slices.Sorted(maps.Keys(refForms()))
	return append(commands, "first", "first", "best", "paint", "exchange", "match", "colour", "chain", "chains", "cycles", "shrink", "cut", "open", "bridge", "dot")
}

// Promise 11: lines lead from desks to desks, and do and put out what the chapter's list tells. A line with the output error changes nothing.
func TestPromise11LinesLeadFromDesksToDesks(t *testing.T) {
	draw := rand.New(rand.NewSource(41))
	console, commands := refConsole(refPatterns()), drawnCommands()
	good, wrong := map[string]int{}, map[string]int{}
	d := impl.NewDesk()
	for k := range 12000 {
		line := drawnLine(draw, d, commands)
		command := strings.Fields(line)[0]
		if k%6 == 0 {
			line = spoiledLine(draw, line)
		}
		want, output := console.run(d, line)
		after, got := impl.RunLine(d, line)
		if got != output || !sameDesk(after, want) || !impl.IsDesk(after) {
			t.Fatalf("%q on %v = %v, %q, not %v, %q", line, d, after, got, want, output)
		}
		if got == "error" {
			wrong[command]++
		} else {
			good[command]++
		}
		if got == "error" && !sameDesk(after, d) {
			t.Fatalf("%q on %v leads to %v", line, d, after)
		}
		checkIsDesk(t, after)
		d = after
	}
	for command := range refForms() {
		if good[command] < 40 || wrong[command] < 10 {
			t.Errorf("%s: %d lines that are good, %d that are wrong", command, good[command], wrong[command])
		}
	}
}

// checkIsDesk looks whether something is a desk, without the program.
func checkIsDesk(t *testing.T, d impl.Desk) {
	t.Helper()
	made, code := impl.GraphOf(d.Graph.Size, d.Graph.Edges)
	if code != impl.ErrNone || !sameGraph(made, d.Graph) || len(d.Colouring) > 0 && !refIsColouring(d.Graph, d.Colouring) || len(d.Matching) > 0 && !refIsMatching(d.Graph, d.Matching) {
		t.Fatalf("%v is no desk", d)
	}
}

// refLines returns the lines of a text.
func refLines(text string) []string {
	var lines []string
	begin := 0
	for i := range len(text) {
		if text[i] == 10 {
			lines = append(lines, text[begin:i])
			begin = i + 1
		}
	}
	if begin < len(text) {
		lines = append(lines, text[begin:])
	}
	return lines
}

// drawnText returns a text of k lines, some of them wrong or empty.
func drawnText(draw *rand.Rand, k int, commands []string) string {
	var text strings.Builder
	d := impl.NewDesk()
	for range k {
		line := drawnLine(draw, d, commands)
		switch draw.Intn(12) {
		case 0:
			line = spoiledLine(draw, line)
		case 1:
			line = ""
		}
		text.WriteString(line + "\n")
		d, _ = impl.RunLine(d, line)
	}
	if draw.Intn(2) == 0 {
		return strings.TrimSuffix(text.String(), "\n")
	}
	return text.String()
}

// Promise 11: the console joins the outputs of its lines, each followed by a newline, and leads to the desk behind the last one. Texts with
// too many lines or bytes are refused.
func TestPromise11TheConsoleJoinsItsLines(t *testing.T) {
	draw := rand.New(rand.NewSource(42))
	commands := drawnCommands()
	accepted := map[bool]int{}
	for range 400 {
		text := drawnText(draw, draw.Intn(46), commands)
		lines := refLines(text)
		fits := len(text) <= 4000 && len(lines) <= 40
		accepted[fits]++
		var outputs strings.Builder
		var d impl.Desk
		if fits {
			d = impl.NewDesk()
			for _, line := range lines {
				if len(line) > 0 {
					after, output := impl.RunLine(d, line)
					d = after
					outputs.WriteString(output + "\n")
				}
			}
		}
		if got := impl.Console(text); got != outputs.String() {
			t.Fatalf("Console(%q) = %q, not %q", text, got, outputs.String())
		}
		if after, ok := impl.DeskAfter(text); ok != fits || !sameDesk(after, d) {
			t.Fatalf("DeskAfter(%q) = %v, %v, not %v", text, after, ok, d)
		}
	}
	if accepted[true] < 200 || accepted[false] < 20 {
		t.Error("texts that are accepted, and not:", accepted)
	}
}

// Promise 11: a text behind another one begins on the desk behind it, and puts out what it puts out there.
func TestPromise11TextsOneAfterTheOther(t *testing.T) {
	draw := rand.New(rand.NewSource(43))
	commands := []string{"name", "open", "shrink", "bridge", "cut", "first", "exchange", "best", "paint", "show", "look", "see", "reset", "graph"}
	for range 300 {
		text := strings.TrimSuffix(drawnText(draw, 20, commands), "\n") + "\n"
		lines := refLines(text)
		if len(text) > 4000 || len(lines) > 40 {
			continue
		}
		cut := draw.Intn(len(lines) + 1)
		ahead, behind := lines[:cut], lines[cut:]
		outputs := impl.Console(strings.Join(ahead, "\n"))
		d, _ := impl.DeskAfter(strings.Join(ahead, "\n"))
		for _, line := range behind {
			if line != "" {
				after, output := impl.RunLine(d, line)
				d, outputs = after, outputs+output+"\n"
			}
		}
		checkConsole(t, text, outputs, d)
	}
}

// Commands that have no words behind them do what the list tells on graphs of all kinds, and the same once more.
func TestCommandsWithoutWords(t *testing.T) {
	console := refConsole(refPatterns())
	for _, g := range append(graphsUpTo(t, 10), thetas(t, 2), beside(t, named(t, "theta"), named(t, "k4")), parsed(t, threeBridges)) {
		d := fullDesk(t, g)
		for command, form := range refForms() {
			if form != "" {
				continue
			}
			want, output := console.run(d, command)
			checkLine(t, d, command, want, output)
			checkLine(t, want, command, want, output)
		}
	}
}

// Calls at the same time return the same as one after the other.
func TestConsoleAtTheSameTime(t *testing.T) {
	draw := rand.New(rand.NewSource(44))
	var callers sync.WaitGroup
	for range 20 {
		text := drawnText(draw, 15, []string{"name", "open", "bridge", "first", "exchange", "best", "paint", "show", "bridges", "matchings", "symmetries"})
		callers.Go(func() {
			want := impl.Console(text)
			for range 3 {
				if got := impl.Console(text); got != want {
					t.Errorf("Console(%q) = %q, then %q", text, want, got)
				}
			}
		})
	}
	callers.Wait()
}
