package graph_test

import (
	"fmt"
	"math"
	"slices"
	"strings"
	"testing"

	"matins/api"
	"matins/graph"
)

func checkMay(t *testing.T, what string, g api.Graph, want bool) {
	t.Helper()
	if graph.May(g) != want {
		t.Errorf("%s: May(%.2000s) = %t", what, fmt.Sprintf("%+v", g), !want)
	}
}

// numberedNodes returns so many nodes in ascending order.
func numberedNodes(n int) []api.Node {
	var nodes []api.Node
	for i := range n {
		nodes = append(nodes, api.Node{Name: fmt.Sprintf("n%03d.target", i), Kind: api.KTarget, State: api.LLoaded})
	}
	return nodes
}

// allEdges returns every edge that there may be among nodes.
func allEdges(nodes []api.Node) []api.Edge {
	var edges []api.Edge
	for _, from := range nodes {
		for _, to := range nodes {
			for rel := api.RRequires; rel <= api.RTriggers && from.Name != to.Name; rel++ {
				edges = append(edges, api.Edge{From: from.Name, To: to.Name, Rel: rel})
			}
		}
	}
	return edges
}

// P15.1: ordinary graphs are valid.
func TestValid(t *testing.T) {
	for _, x := range []struct{ nodes, edges string }{
		{"", ""},
		{"a.service", ""},
		{"a.service b.socket c.target d.timer", ""},
		{"a.service b.service", "a.service requires b.service"},
		{"a.service b.service", "b.service requires a.service"},
		{"a.service b.service", "a.service requires b.service, b.service requires a.service"},
		{"a.service b.service c.timer", "a.service requires b.service, a.service triggers b.service, c.timer part a.service"},
		{"a.service b.service c.timer", "a.service triggers b.service, a.service requires c.timer, b.service wants a.service"},
		{"a@.service a@b.service", "a@.service after a@b.service"},
	} {
		checkMay(t, "valid", graphOf(t, x.nodes, x.edges), true)
	}
}

// P15.1: a graph has at most 64 nodes.
func TestMostNodes(t *testing.T) {
	for n := range 70 {
		checkMay(t, "nodes", api.Graph{Nodes: numberedNodes(n)}, n <= 64)
	}
	full := api.Graph{Nodes: numberedNodes(64), Edges: allEdges(numberedNodes(64))}
	checkMay(t, "full", full, true)
	full.Nodes = numberedNodes(65)
	checkMay(t, "overfull", full, false)
}

// P15.1: the nodes are strictly ascending by Name.
func TestNodesAscend(t *testing.T) {
	for nodes, want := range map[string]bool{
		"a.target b.target c.target":       true,
		"a.target a.target":                false,
		"a.target b.target b.target":       false,
		"a.target a.target b.target":       false,
		"b.target a.target":                false,
		"a.target c.target b.target":       false,
		"b.target a.target c.target":       false,
		"a.target b.target a.target":       false,
		"a.service a.socket a.target":      true,
		"a.target a.socket":                false,
		"B.target a.target":                true,
		"a.target B.target":                false,
		"a-b.target a.target":              true,
		"a.target a-b.target":              false,
		"a.target aa.target":               true,
		"n10.target n9.target":             true,
		"n9.target n10.target":             false,
		"a.target a:.target aa.target":     true,
		"a.b.target a.target":              true,
		"a.target a.b.target":              false,
		"a.service a@.service a@b.service": true,
	} {
		checkMay(t, nodes, graphOf(t, nodes, ""), want)
	}
}

// P15.1: each Name is a unit name.
func TestNodesHaveNames(t *testing.T) {
	long := strings.Repeat("a", 53) + ".target"
	for name, want := range map[string]bool{
		"a.target": true, "a@.target": true, "a@b.target": true, long: true,
		"": false, "a": false, ".target": false, "a.": false, "a.mount": false, "a b.target": false, "a/b.target": false,
		"a.target ": false, "a.Target": false, "@.target": false, "é.target": false, "a" + long: false, "\x00.target": false, "null": false,
	} {
		checkMay(t, name, api.Graph{Nodes: []api.Node{{Name: name, Kind: api.KTarget, State: 1}}}, want)
		checkMay(t, name, api.Graph{Nodes: []api.Node{{Name: name, Kind: 0, State: 1}}}, false)
	}
	checkMay(t, "last", graphOf(t, "a.target b.target c.mount", ""), false)
	checkMay(t, "first", graphOf(t, "a.mount b.target c.target", ""), false)
}

// P15.1: Kind is that of the Name, and State is from LLoaded to LBad.
func TestKindsAndStates(t *testing.T) {
	for kind, suffix := range suffixes[1:] {
		for k := -3; k < 20; k++ {
			for state := -3; state < 20; state++ {
				node := api.Node{Name: "a." + suffix, Kind: k, State: state}
				want := k == kind+1 && 1 <= state && state <= 4
				checkMay(t, "alone", api.Graph{Nodes: []api.Node{node}}, want)
				checkMay(t, "last", api.Graph{Nodes: append(graphOf(t, "B.target C.target", "").Nodes, node)}, want)
			}
		}
	}
	for _, odd := range []int{math.MinInt, math.MaxInt, 1 + 1<<32, 1 + 1<<8} {
		checkMay(t, "kind", api.Graph{Nodes: []api.Node{{Name: "a.service", Kind: odd, State: 1}}}, false)
		checkMay(t, "state", api.Graph{Nodes: []api.Node{{Name: "a.service", Kind: 1, State: odd}}}, false)
	}
}

// P15.1: the edges are strictly ascending by From, then To, then Rel.
func TestEdgesAscend(t *testing.T) {
	list := allEdges(graphOf(t, "a.target b.target c.target", "").Nodes)
	g := graphOf(t, "a.target b.target c.target", "")
	for i, a := range list {
		for j, b := range list {
			g.Edges = []api.Edge{a, b}
			checkMay(t, "two", g, i < j)
		}
		g.Edges = slices.Delete(slices.Clone(list), i, i+1)
		checkMay(t, "one less", g, true)
		g.Edges = slices.Insert(slices.Clone(list), i, list[i])
		checkMay(t, "one twice", g, false)
	}
	// What counts first is From, even if To and Rel are less; then To.
	for edges, want := range map[string]bool{
		"a.target triggers c.target, b.target requires a.target": true,
		"b.target requires a.target, a.target triggers c.target": false,
		"a.target triggers b.target, a.target requires c.target": true,
		"a.target requires c.target, a.target triggers b.target": false,
		"a.target requires b.target, a.target triggers b.target": true,
		"a.target triggers b.target, a.target requires b.target": false,
	} {
		checkMay(t, edges, graphOf(t, "a.target b.target c.target", edges), want)
	}
}

// P15.1: each edge connects two different nodes, the first of which is LLoaded.
func TestEdgesConnect(t *testing.T) {
	for edges, want := range map[string]bool{
		"a.target wants b.target":                               true,
		"a.target wants a.target":                               false,
		"b.target wants b.target":                               false,
		"a.target wants x.target":                               false,
		"a.target wants A.target":                               false,
		"A.target wants a.target":                               false,
		"x.target wants a.target":                               false,
		"aa.target wants b.target":                              false,
		"a.target wants b.service":                              false,
		"A.target wants x.target":                               false,
		"a.target wants b.target, b.target wants c.target":      true,
		"a.target wants b.target, b.target wants d.target":      false,
		"a.target wants b.target, b.target wants b.target":      false,
		"a.target after a.target, b.target wants c.target":      false,
		"a.target wants b.target, b.target after bb.target":     false,
		"a.target wants b.target, bb.target requires c.target":  false,
		"a.target wants b.target, c.target triggers b.target":   true,
		"a.target wants b.target, c.target triggers \x00.timer": false,
	} {
		checkMay(t, edges, graphOf(t, "a.target b.target c.target", edges), want)
	}
	for _, end := range []string{"", "null"} {
		g := graphOf(t, "a.target", "")
		g.Edges = []api.Edge{{From: "a.target", To: end, Rel: 1}}
		checkMay(t, "to "+end, g, false)
		g.Edges = []api.Edge{{From: end, To: "a.target", Rel: 1}}
		checkMay(t, "from "+end, g, false)
		g.Edges = []api.Edge{{From: end, To: end, Rel: 1}}
		checkMay(t, "from to "+end, g, false)
	}
	checkMay(t, "no node", graphOf(t, "", "a.target wants b.target"), false)
	for from := api.LLoaded; from <= api.LBad; from++ {
		for to := api.LLoaded; to <= api.LBad; to++ {
			g := graphOf(t, "a.target b.target c.target", "a.target requires c.target, b.target wants a.target, b.target wants c.target")
			g.Nodes[1].State, g.Nodes[2].State = from, to
			checkMay(t, "states", g, from == api.LLoaded)
		}
	}
}

// P15.1: Rel is from RRequires to RTriggers.
func TestRelations(t *testing.T) {
	for _, rel := range []int{math.MinInt, -10, -1, 0, 1, 2, 3, 4, 5, 6, 7, 8, 9, 10, 11, 12, 257, 1 + 1<<32, math.MaxInt} {
		g := graphOf(t, "a.target b.target", "")
		g.Edges = []api.Edge{{From: "a.target", To: "b.target", Rel: rel}}
		checkMay(t, "alone", g, 1 <= rel && rel <= 10)
		g.Edges = []api.Edge{{From: "a.target", To: "b.target", Rel: 1}, {From: "b.target", To: "a.target", Rel: rel}}
		checkMay(t, "last", g, 1 <= rel && rel <= 10)
		g.Edges = []api.Edge{{From: "a.target", To: "b.target", Rel: rel}, {From: "b.target", To: "a.target", Rel: 1}}
		checkMay(t, "first", g, 1 <= rel && rel <= 10)
	}
}
