package graph_test

import (
	"math"
	"slices"
	"strings"
	"testing"

	"matins/api"
	"matins/graph"
)

func checkNode(t *testing.T, g api.Graph, unit string, want api.Node, there bool) {
	t.Helper()
	if node, ok := graph.Node(g, unit); node != want || ok != there {
		t.Errorf("Node(%+v, %q) = %+v, %t, want %+v, %t", g, unit, node, ok, want, there)
	}
}

// P15.1: Node returns the node with a Name, or the zero Node.
func TestNode(t *testing.T) {
	g := api.Graph{Nodes: []api.Node{{Name: "a.service", Kind: 1, State: 1}, {Name: "b.socket", Kind: 2, State: 4}, {Name: "c.target", Kind: 4, State: 2}}}
	for _, node := range g.Nodes {
		checkNode(t, g, node.Name, node, true)
	}
	for _, unit := range []string{"", "a", "A.service", "a.service ", "a.servicf", "aa.service", "b.service", "d.target", "\xff", "null"} {
		checkNode(t, g, unit, api.Node{}, false)
		checkNode(t, api.Graph{}, unit, api.Node{}, false)
	}
	full := api.Graph{Nodes: numberedNodes(64)}
	for _, node := range full.Nodes {
		checkNode(t, full, node.Name, node, true)
	}
	// What the edges name is no node.
	checkNode(t, graphOf(t, "a.target", "a.target wants b.target"), "b.target", api.Node{}, false)
}

// P15.1: so it does if the graph is not valid.
func TestNodeOfInvalid(t *testing.T) {
	g := api.Graph{Nodes: []api.Node{{Name: "c.x", Kind: -9, State: 77}, {Name: "a.target"}, {Name: "b.target", Kind: 1}, {Name: "", Kind: 3}, {Name: "A\xff", State: 5}}}
	for _, node := range g.Nodes {
		checkNode(t, g, node.Name, node, true)
	}
	checkNode(t, g, "c.target", api.Node{}, false)
	many := api.Graph{Nodes: numberedNodes(300)}
	for _, node := range many.Nodes {
		checkNode(t, many, node.Name, node, true)
	}
}

// checkEnds checks what Out and In return, given with blanks between the names.
func checkEnds(t *testing.T, g api.Graph, unit string, rel int, out, in string) {
	t.Helper()
	if got := strings.Join(graph.Out(g, unit, rel), " "); got != out {
		t.Errorf("Out(%+v, %q, %d) = %q, want %q", g, unit, rel, got, out)
	}
	if got := strings.Join(graph.In(g, unit, rel), " "); got != in {
		t.Errorf("In(%+v, %q, %d) = %q, want %q", g, unit, rel, got, in)
	}
}

// P15.1: Out and In follow edges with one relation.
func TestOutIn(t *testing.T) {
	g := graphOf(t, "a.target b.target c.target d.target", "a.target wants b.target, a.target wants c.target, a.target after c.target, b.target wants a.target, b.target wants c.target, c.target wants b.target, c.target triggers d.target")
	for _, x := range []struct {
		unit    string
		rel     int
		out, in string
	}{
		{"a.target", api.RWants, "b.target c.target", "b.target"},
		{"b.target", api.RWants, "a.target c.target", "a.target c.target"},
		{"c.target", api.RWants, "b.target", "a.target b.target"},
		{"d.target", api.RWants, "", ""},
		{"a.target", api.RAfter, "c.target", ""},
		{"c.target", api.RAfter, "", "a.target"},
		{"c.target", api.RTriggers, "d.target", ""},
		{"d.target", api.RTriggers, "", "c.target"},
		{"a.target", api.RRequires, "", ""},
		{"a.target", api.RBefore, "", ""},
		{"a.target", 0, "", ""},
		{"a.target", -2, "", ""},
		{"a.target", 11, "", ""},
		{"a.target", api.RWants + 1<<32, "", ""},
		{"a.target", math.MinInt, "", ""},
		{"", api.RWants, "", ""},
		{"A.target", api.RWants, "", ""},
		{"a.target ", api.RWants, "", ""},
		{"e.target", api.RWants, "", ""},
		{"a", api.RWants, "", ""},
	} {
		checkEnds(t, g, x.unit, x.rel, x.out, x.in)
		checkEnds(t, api.Graph{}, x.unit, x.rel, "", "")
		checkEnds(t, api.Graph{Nodes: g.Nodes}, x.unit, x.rel, "", "")
	}
}

// P15.1: each relation is followed alone.
func TestOutInByRelation(t *testing.T) {
	for rel := api.RRequires; rel <= api.RTriggers; rel++ {
		g := graphOf(t, "a.target b.target", "a.target "+words[rel]+" b.target")
		for other := -1; other < 13; other++ {
			out, in := "", ""
			if other == rel {
				out, in = "b.target", "a.target"
			}
			checkEnds(t, g, "a.target", other, out, "")
			checkEnds(t, g, "b.target", other, "", in)
		}
	}
}

// P15.1: the names are in ascending order, each once, whether or not the graph is
// valid.
func TestOutInAscend(t *testing.T) {
	g := graphOf(t, "", "m.target wants z.target, m.target wants a.target, z.target wants m.target, m.target wants z.target, B.target wants m.target, a.target wants m.target, z.target wants m.target, m.target wants B.target, m.target after q.target, q.target after m.target, m.target wants a.target, a.target wants m.target")
	for range 2 {
		checkEnds(t, g, "m.target", api.RWants, "B.target a.target z.target", "B.target a.target z.target")
		checkEnds(t, g, "m.target", api.RAfter, "q.target", "q.target")
		checkEnds(t, g, "z.target", api.RWants, "m.target", "m.target")
		slices.Reverse(g.Edges)
	}
	odd := api.Graph{Edges: []api.Edge{{From: "x", To: "x", Rel: -5}, {From: "", To: "x", Rel: -5}, {From: "x", To: "", Rel: -5}, {From: "x", To: "\xff", Rel: -5}, {From: "x", To: "\xff", Rel: 99}}}
	checkEnds(t, odd, "x", -5, " x \xff", " x")
	checkEnds(t, odd, "", -5, "x", "x")
	checkEnds(t, odd, "\xff", 99, "", "x")
	if list := graph.Out(odd, "x", -5); len(list) != 3 || list[0] != "" {
		t.Errorf("%q", list)
	}
}

// P15.1: all names, in the greatest graph that there may be.
func TestOutInOfFull(t *testing.T) {
	g := api.Graph{Nodes: numberedNodes(64), Edges: allEdges(numberedNodes(64))}
	for rel := 0; rel <= 11; rel++ {
		for i, node := range g.Nodes {
			var others []string
			for j, other := range g.Nodes {
				if j != i && 1 <= rel && rel <= 10 {
					others = append(others, other.Name)
				}
			}
			if out, in := graph.Out(g, node.Name, rel), graph.In(g, node.Name, rel); flat(out) != flat(others) || flat(in) != flat(others) {
				t.Fatalf("%q %d: %q, %q", node.Name, rel, out, in)
			}
		}
	}
}
