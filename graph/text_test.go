package graph_test

import (
	"fmt"
	"slices"
	"strconv"
	"strings"
	"testing"

	"matins/api"
	"matins/graph"
)

// words are relations, by their numbers.
var words = []string{"none", "requires", "wants", "requisite", "binds", "part", "conflicts", "before", "after", "failure", "triggers"}

// suffixes are kinds, by their numbers.
var suffixes = []string{"none", "service", "socket", "timer", "target"}

func kindOf(name string) int {
	return slices.Index(suffixes, name[strings.LastIndexByte(name, '.')+1:])
}

func relOf(t *testing.T, word string) int {
	t.Helper()
	rel := slices.Index(words, word)
	if rel < 0 {
		t.Fatalf("there is no relation %q", word)
	}
	return rel
}

// units returns the loaded units that a text has, one a line. Behind the name
// stand, with blanks between them:
//
//	after=b.target,c.target  Rels to units
//	+wants=b.target          Wants, which come from links; +requires is alike
//	sockets=b.socket         Sockets
//	unit=b.service           Unit
//	default                  Default is set
//	state=4                  the State, if it isn't LLoaded
func units(t *testing.T, text string) []api.Loaded {
	t.Helper()
	var l []api.Loaded
	for line := range strings.Lines(text) {
		if fields := strings.Fields(line); len(fields) > 0 {
			l = append(l, unitOf(t, fields))
		}
	}
	return l
}

func unitOf(t *testing.T, fields []string) api.Loaded {
	t.Helper()
	x := api.Loaded{Name: fields[0], State: api.LLoaded, U: api.Unit{Name: fields[0], Kind: kindOf(fields[0])}}
	for _, field := range fields[1:] {
		key, value, _ := strings.Cut(field, "=")
		list := strings.Split(value, ",")
		switch key {
		case "default":
			x.U.Default = true
		case "state":
			x.State, _ = strconv.Atoi(value)
		case "unit":
			x.U.Unit = value
		case "sockets":
			x.U.Sockets = list
		case "+wants":
			x.Wants = list
		case "+requires":
			x.Requires = list
		default:
			for _, name := range list {
				x.U.Rels = append(x.U.Rels, api.Rel{Kind: relOf(t, key), Name: name})
			}
		}
	}
	return x
}

// edgesText tells edges in their order.
func edgesText(edges []api.Edge) string {
	var list []string
	for _, e := range edges {
		list = append(list, e.From+" "+words[e.Rel]+" "+e.To)
	}
	return strings.Join(list, ", ")
}

// nodesText tells nodes in their order.
func nodesText(nodes []api.Node) string {
	var list []string
	for _, n := range nodes {
		list = append(list, fmt.Sprintf("%s %d %d", n.Name, n.Kind, n.State))
	}
	return strings.Join(list, ", ")
}

// graphOf returns the graph with nodes, given with blanks between them, all of them
// LLoaded, and with edges, given as edgesText tells them. Both are in the order in
// which they are given.
func graphOf(t *testing.T, nodes, edges string) api.Graph {
	t.Helper()
	var g api.Graph
	for name := range strings.FieldsSeq(nodes) {
		g.Nodes = append(g.Nodes, api.Node{Name: name, Kind: kindOf(name), State: api.LLoaded})
	}
	for edge := range strings.SplitSeq(edges, ", ") {
		if fields := strings.Fields(edge); len(fields) == 3 {
			g.Edges = append(g.Edges, api.Edge{From: fields[0], To: fields[2], Rel: relOf(t, fields[1])})
		}
	}
	return g
}

// flat returns a value as a text in which nil and an empty list look the same.
func flat(x any) string { return fmt.Sprintf("%+q", x) }

func checkText(t *testing.T, what, got, want string) {
	t.Helper()
	if got != want {
		t.Errorf("%s: %q, want %q", what, got, want)
	}
}

// checkEdges checks the edges of the graph of units, whatever their order, and that
// the graph is valid.
func checkEdges(t *testing.T, text, want string) {
	t.Helper()
	l := units(t, text)
	for range 2 {
		for range l {
			g := graph.Of(l)
			checkText(t, text, edgesText(g.Edges), want)
			if !graph.May(g) {
				t.Errorf("%s: %+v may not be", text, g)
			}
			l = append(l[1:], l[0])
		}
		slices.Reverse(l)
	}
}
