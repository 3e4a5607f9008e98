package tests

import (
	"regexp"
	"strconv"
	"strings"

	"loop.example/g01329/impl"
)

// The chapter's list once more: what a line looks like is a pattern, and what is done is asked from the functions of the chapters.

const (
	refNumber  = ` (0|[1-9][0-9]{0,8})`
	refText    = ` [^ ]*`
	refNumbers = `( (0|[1-9][0-9]{0,8}))*`
)

// refForms returns what stands behind each command.
func refForms() map[string]string {
	forms := map[string]string{
		"graph": refText, "name": refText, "dot": refNumber + refNumber + refText + refNumber + refNumber,
		"renumber": refNumbers, "colour": refNumbers, "match": refNumbers,
		"shrink": refNumber + refNumber + refNumber,
	}
	for _, command := range []string{"open", "cut", "stabiliser"} {
		forms[command] = refNumber
	}
	for _, command := range []string{"bridge", "exchange", "chain", "circular"} {
		forms[command] = refNumber + refNumber
	}
	for _, command := range []string{"first", "best", "paint", "show", "look", "see", "girth", "count", "chains", "bridges", "cyclic", "matchings",
		"cycles", "oddness", "cover", "snark", "resistance", "strong", "total", "symmetries", "reset"} {
		forms[command] = ""
	}
	return forms
}

// refPatterns returns the patterns of all lines.
func refPatterns() map[string]*regexp.Regexp {
	patterns := map[string]*regexp.Regexp{}
	for command, form := range refForms() {
		patterns[command] = regexp.MustCompile(`^` + command + form + `$`)
	}
	return patterns
}

// A refConsole runs lines with the patterns.
type refConsole map[string]*regexp.Regexp

// run returns the desk after a line, and its output.
func (console refConsole) run(d impl.Desk, line string) (impl.Desk, string) {
	command, _, _ := strings.Cut(line, " ")
	pattern := console[command]
	if pattern == nil || !pattern.MatchString(line) {
		return d, "error"
	}
	words := strings.Split(line, " ")[1:]
	var x []int64
	for _, word := range words {
		// Texts are no numbers: they count for nothing here.
		if number, err := strconv.ParseInt(word, 10, 64); err == nil {
			x = append(x, number)
		}
	}
	if command == "reset" {
		k4, _ := impl.NamedGraph("k4")
		return impl.Desk{Graph: k4}, "ok"
	}
	if g, code, known := refGraphOf(d, command, words, x); known {
		if code != impl.ErrNone {
			return d, "error"
		}
		return impl.Desk{Graph: g}, textOf(g)
	}
	return refListAfter(d, command, x)
}

// refGraphOf returns the graph that G becomes, with the code, and whether the command gives it one.
func refGraphOf(d impl.Desk, command string, words []string, x []int64) (g impl.Graph, code int64, known bool) {
	known = true
	switch command {
	case "graph":
		g, code = impl.ParseGraph(words[0])
	case "name":
		g, code = impl.NamedGraph(words[0])
	case "open":
		g, code = impl.OpenVertex(d.Graph, x[0])
	case "shrink":
		g, code = impl.ShrinkTriangle(d.Graph, x[0], x[1], x[2])
	case "bridge":
		g, code = impl.BridgeEdges(d.Graph, x[0], x[1])
	case "cut":
		g, code = impl.CutEdge(d.Graph, x[0])
	case "dot":
		var h impl.Graph
		if h, code = impl.NamedGraph(words[2]); code == impl.ErrNone {
			g, code = impl.DotProduct(d.Graph, x[0], x[1], h, x[2], x[3])
		}
	case "renumber":
		g, code = impl.RenumberGraph(d.Graph, x)
	default:
		known = false
	}
	return g, code, known
}

// refListAfter returns what a line does that gives G no graph.
func refListAfter(d impl.Desk, command string, x []int64) (impl.Desk, string) {
	list, code, known := refColouringAfter(d, command, x)
	if known && code == impl.ErrNone {
		return impl.Desk{Graph: d.Graph, Colouring: list, Matching: d.Matching}, refList(list)
	}
	if !known {
		if list, code, known = refMatchingAfter(d, command, x); known && code == impl.ErrNone {
			return impl.Desk{Graph: d.Graph, Colouring: d.Colouring, Matching: list}, refList(list)
		}
	}
	if known {
		return d, "error"
	}
	if list, code, known = refAskedList(d, command, x); known && code == impl.ErrNone {
		return d, refList(list)
	}
	if known {
		return d, "error"
	}
	return d, refAsked(d, command, x)
}

func refColouringAfter(d impl.Desk, command string, x []int64) (list []int64, code int64, known bool) {
	known = true
	switch command {
	case "colour":
		list = x
		if !refIsColouring(d.Graph, x) {
			code = impl.ErrRange
		}
	case "first":
		list, code = impl.FirstColouring(d.Graph)
	case "exchange":
		list, code = impl.ExchangeChain(d.Graph, d.Colouring, x[0], x[1])
	case "paint":
		list, code = impl.ColouringOf(d.Graph, d.Matching)
	default:
		known = false
	}
	return list, code, known
}

func refMatchingAfter(d impl.Desk, command string, x []int64) (list []int64, code int64, known bool) {
	known = true
	switch command {
	case "match":
		list = x
		if !refIsMatching(d.Graph, x) {
			code = impl.ErrRange
		}
	case "best":
		list, code = impl.BestMatching(d.Graph)
	default:
		known = false
	}
	return list, code, known
}

// refAskedList returns a list that is put out alone.
func refAskedList(d impl.Desk, command string, x []int64) (list []int64, code int64, known bool) {
	known = true
	switch command {
	case "look":
		list = d.Colouring
	case "see":
		list = d.Matching
	case "chain":
		list, code = impl.ChainOf(d.Graph, d.Colouring, x[0], x[1])
	case "chains":
		list, code = impl.ChainNumbers(d.Graph, d.Colouring)
	case "bridges":
		list, code = impl.BridgesOf(d.Graph)
	case "cycles":
		list, code = impl.CyclesLeft(d.Graph, d.Matching)
	case "circular":
		list, code = impl.CircularOf(d.Graph, x[0], x[1])
	default:
		known = false
	}
	return list, code, known
}

// refAsked returns the output of what is put out alone, and is no list.
func refAsked(d impl.Desk, command string, x []int64) string {
	switch command {
	case "show":
		return textOf(d.Graph)
	case "snark":
		if yes, _ := impl.IsSnark(d.Graph); !yes {
			return "no"
		}
		return "yes"
	case "stabiliser":
		return refOutput(impl.StabiliserNumber(d.Graph, x[0]))
	}
	asked := map[string]func(impl.Graph) (int64, int64){
		"girth": impl.GirthOf, "count": impl.CountColourings, "cyclic": impl.CyclicConnectivity, "matchings": impl.CountMatchings, "oddness": impl.OddnessOf,
		"cover": impl.CoverNumber, "resistance": impl.ResistanceOf, "strong": impl.StrongNumber, "total": impl.TotalNumber, "symmetries": impl.CountAutomorphisms,
	}
	return refOutput(asked[command](d.Graph))
}

func refOutput(x int64, code int64) string {
	if code != impl.ErrNone {
		return "error"
	}
	return strconv.FormatInt(x, 10)
}

// refList returns the output of a list.
func refList(list []int64) string {
	if len(list) == 0 {
		return "none"
	}
	text := ""
	for _, x := range list {
		text += " " + strconv.FormatInt(x, 10)
	}
	return text[1:]
}
