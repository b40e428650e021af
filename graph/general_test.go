package graph_test

import (
	"math"
	"slices"
	"strconv"
	"strings"
	"sync"
	"testing"

	"matins/api"
	"matins/graph"
)

// Each function has the face that the chapter gives it.
var (
	_ func(api.Graph) bool                     = graph.May
	_ func([]api.Loaded) api.Graph             = graph.Of
	_ func(api.Graph, string) (api.Node, bool) = graph.Node
	_ func(api.Graph, string, int) []string    = graph.Out
	_ func(api.Graph, string, int) []string    = graph.In
)

// rich has units with edges of all kinds.
const rich = `
	b.service default sockets=c.socket,b.service after=a.target failure=x.service
	a.target default +wants=d.timer,c.socket,b.service +requires=b.service requires=e.service
	shutdown.target
	c.socket default unit=b.service part=a.target
	d.timer wants=d.timer,c.socket
	e.service state=2 wants=a.target
	? default
	sysinit.target before=a.target,a.target
	a.target state=3`

const (
	richNodes = "a.target 4 1, b.service 1 1, c.socket 2 1, d.timer 3 1, e.service 1 2, shutdown.target 4 1, sysinit.target 4 1"
	richEdges = "a.target requires b.service, a.target wants b.service, a.target wants c.socket, a.target after c.socket, a.target wants d.timer, a.target after d.timer, a.target requires e.service, a.target after e.service, " +
		"b.service after a.target, b.service wants c.socket, b.service after c.socket, b.service conflicts shutdown.target, b.service before shutdown.target, b.service requires sysinit.target, b.service after sysinit.target, " +
		"c.socket part a.target, c.socket before b.service, c.socket triggers b.service, c.socket conflicts shutdown.target, c.socket before shutdown.target, c.socket after sysinit.target, d.timer wants c.socket, sysinit.target before a.target"
)

// checkRich checks all answers for the units of rich.
func checkRich(t *testing.T, l []api.Loaded) {
	t.Helper()
	g := graph.Of(l)
	checkText(t, "nodes", nodesText(g.Nodes), richNodes)
	checkText(t, "edges", edgesText(g.Edges), richEdges)
	checkMay(t, "rich", g, true)
	checkEnds(t, g, "c.socket", api.RWants, "", "a.target b.service d.timer")
	checkEnds(t, g, "a.target", api.RAfter, "c.socket d.timer e.service", "b.service")
	checkNode(t, g, "e.service", api.Node{Name: "e.service", Kind: 1, State: 2}, true)
	checkNode(t, g, "x.service", api.Node{}, false)
}

func fill[T any](list []T, with T) {
	list = list[:cap(list)]
	for i := range list {
		list[i] = with
	}
}

// spoil writes into everything that units have, up to the ends of the spare
// capacities.
func spoil(l []api.Loaded) {
	for _, x := range l {
		fill(x.Wants, "spoilt")
		fill(x.Requires, "spoilt")
		fill(x.U.Sockets, "spoilt")
		fill(x.U.Rels, api.Rel{Kind: api.RPart, Name: "b.service"})
	}
	fill(l, api.Loaded{Name: "spoilt.service", State: 3})
}

// roomy returns units whose lists have spare capacity, with something in it.
func roomy(l []api.Loaded) []api.Loaded {
	more := func(list []string) []string { return append(list, "sysinit.target", "more")[:len(list)] }
	for i := range l {
		x := &l[i]
		x.Wants, x.Requires, x.U.Sockets = more(x.Wants), more(x.Requires), more(x.U.Sockets)
		x.U.Rels = append(x.U.Rels, api.Rel{Kind: api.RBinds, Name: "d.timer"}, api.Rel{})[:len(x.U.Rels)]
	}
	return append(l, api.Loaded{Name: "more.service", State: 1}, api.Loaded{})[:len(l)]
}

// whole tells units with their spare capacities.
func whole(l []api.Loaded) string {
	l = slices.Clone(l[:cap(l)])
	for i := range l {
		x := &l[i]
		x.Wants, x.Requires, x.U.Sockets, x.U.Rels = x.Wants[:cap(x.Wants)], x.Requires[:cap(x.Requires)], x.U.Sockets[:cap(x.U.Sockets)], x.U.Rels[:cap(x.U.Rels)]
	}
	return flat(l)
}

// P0.3: no call changes or keeps anything of its arguments, not even behind their
// ends.
func TestArgumentsAreLeft(t *testing.T) {
	l := roomy(units(t, rich))
	before := whole(l)
	g := graph.Of(l)
	if whole(l) != before {
		t.Errorf("the units are now %s, not %s", whole(l), before)
	}
	spoil(l)
	checkText(t, "nodes", nodesText(g.Nodes), richNodes)
	checkText(t, "edges", edgesText(g.Edges), richEdges)
	checkRich(t, units(t, rich))
}

// P0.3: likewise for the calls that are given a graph.
func TestGraphsAreLeft(t *testing.T) {
	g := graph.Of(units(t, rich))
	for range 2 {
		g.Nodes = append(g.Nodes, api.Node{Name: "more"}, api.Node{})[:len(g.Nodes)]
		g.Edges = append(g.Edges, api.Edge{From: "a.target", To: "b.service", Rel: api.RAfter}, api.Edge{})[:len(g.Edges)]
		nodes, edges := slices.Clone(g.Nodes[:cap(g.Nodes)]), slices.Clone(g.Edges[:cap(g.Edges)])
		graph.May(g)
		graph.Node(g, "c.socket")
		out, in := graph.Out(g, "a.target", api.RAfter), graph.In(g, "c.socket", api.RWants)
		if !slices.Equal(g.Nodes[:cap(g.Nodes)], nodes) || !slices.Equal(g.Edges[:cap(g.Edges)], edges) {
			t.Errorf("the graph is now %+v", g)
		}
		fill(out, "spoilt")
		fill(in, "spoilt")
		checkEnds(t, g, "a.target", api.RAfter, "c.socket d.timer e.service", "b.service")
		checkEnds(t, g, "c.socket", api.RWants, "", "a.target b.service d.timer")
		// Neither does a graph that is not valid change.
		slices.Reverse(g.Nodes)
		slices.Reverse(g.Edges)
	}
}

// P0.3: what a caller writes into one answer changes no other one, nor what any call
// answers.
func TestListsAreNew(t *testing.T) {
	l := units(t, rich)
	before := flat(l)
	first, second := graph.Of(l), graph.Of(l)
	fill(first.Nodes, api.Node{Name: "spoilt"})
	fill(first.Edges, api.Edge{From: "spoilt"})
	checkText(t, "nodes", nodesText(second.Nodes), richNodes)
	checkText(t, "edges", edgesText(second.Edges), richEdges)
	out, in := graph.Out(second, "a.target", api.RAfter), graph.In(second, "c.socket", api.RWants)
	fill(graph.Out(second, "a.target", api.RAfter), "spoilt")
	fill(graph.In(second, "c.socket", api.RWants), "spoilt")
	checkText(t, "out", strings.Join(out, " "), "c.socket d.timer e.service")
	checkText(t, "in", strings.Join(in, " "), "a.target b.service d.timer")
	checkText(t, "units", flat(l), before)
	checkRich(t, l)
}

// P0.4: nil and an empty list are the same.
func TestNilAndEmpty(t *testing.T) {
	for _, l := range [][]api.Loaded{nil, {}, units(t, rich)[:0]} {
		if g := graph.Of(l); len(g.Nodes)+len(g.Edges) != 0 {
			t.Errorf("%+v", g)
		}
	}
	for _, nodes := range [][]api.Node{nil, {}, numberedNodes(2)[:0]} {
		for _, edges := range [][]api.Edge{nil, {}, make([]api.Edge, 2)[:0]} {
			g := api.Graph{Nodes: nodes, Edges: edges}
			checkMay(t, "empty", g, true)
			checkNode(t, g, "", api.Node{}, false)
			checkEnds(t, g, "", 0, "", "")
		}
	}
	l := units(t, rich)
	for i := range l {
		x := &l[i]
		x.Wants, x.Requires, x.U.Sockets = append([]string{}, x.Wants...), append([]string{}, x.Requires...), append([]string{}, x.U.Sockets...)
		x.U.Rels = append([]api.Rel{}, x.U.Rels...)
	}
	checkRich(t, l)
	if g := (api.Graph{Nodes: numberedNodes(2), Edges: []api.Edge{}}); !graph.May(g) {
		t.Errorf("%+v", g)
	}
}

// P0.5: a call answers the same whatever was called before it or is called beside
// it.
func TestNothingIsKept(t *testing.T) {
	l, other := units(t, rich), units(t, "a.target state=2\nc.socket wants=a.target\nz.target")
	var group sync.WaitGroup
	for range 8 {
		group.Go(func() {
			for range 50 {
				checkRich(t, l)
				g := graph.Of(other)
				graph.May(g)
				graph.Node(g, "e.service")
				graph.Out(g, "c.socket", api.RWants)
				graph.In(g, "a.target", api.RWants)
			}
		})
	}
	group.Wait()
}

// P0.7: names are compared byte by byte.
func TestBytesAreCompared(t *testing.T) {
	names := []string{"A.target", "Z.target", "a-.target", "a..target", "a.target", "a0.target", "a:.target", `a\x2d.target`, "a_.target", "aa.target"}
	var l []api.Loaded
	for _, name := range names {
		l = append(l, units(t, name+" wants="+strings.Join(names, ","))...)
	}
	slices.Reverse(l)
	g := graph.Of(l)
	checkMay(t, "bytes", g, true)
	for i, name := range names {
		others := strings.Join(slices.Concat(names[:i], names[i+1:]), " ")
		checkEnds(t, g, name, api.RWants, others, others)
		checkNode(t, g, name, api.Node{Name: name, Kind: 4, State: 1}, true)
	}
}

// P0.1: every call ends, soon enough, also with long arguments and any bytes.
func TestLongArguments(t *testing.T) {
	const many = 1 << 18
	for _, piece := range []string{"x", "/", ".", "@", "\x00", "\xff", ".service", "é"} {
		long := strings.Repeat(piece, many)
		l := units(t, "a.target default wants=b.target +wants=b.target\nb.target")
		l = append(l, api.Loaded{Name: long, State: 1})
		l[0].Wants, l[0].Requires, l[1].U.Rels = append(l[0].Wants, long), []string{long}, []api.Rel{{Kind: 1, Name: long}}
		g := graph.Of(l)
		checkText(t, "edges", edgesText(g.Edges), "a.target wants b.target, a.target after b.target")
		checkNode(t, g, long, api.Node{}, false)
		checkEnds(t, g, long, 1, "", "")
		checkMay(t, "long", api.Graph{Nodes: []api.Node{{Name: long, Kind: 1, State: 1}}}, false)
	}
	checkMay(t, "many nodes", api.Graph{Nodes: make([]api.Node, many)}, false)
	checkMay(t, "many edges", api.Graph{Edges: make([]api.Edge, many)}, false)
	checkMay(t, "many edges", api.Graph{Nodes: numberedNodes(64), Edges: slices.Repeat(allEdges(numberedNodes(64)), 5)}, false)
	g := api.Graph{Edges: slices.Repeat(graphOf(t, "", "a.target wants b.target, b.target after a.target").Edges, many)}
	checkEnds(t, g, "a.target", api.RWants, "b.target", "")
	checkEnds(t, g, "a.target", api.RAfter, "", "b.target")
}

// P0.1: likewise for many units, and for one that says much.
func TestLongLists(t *testing.T) {
	const many = 1 << 16
	var l []api.Loaded
	for i := range many {
		l = append(l, api.Loaded{Name: strconv.Itoa(i) + ".target", State: 1})
	}
	for range 2 {
		if g := graph.Of(l); len(g.Nodes) != 64 || g.Nodes[0].Name != "0.target" || g.Nodes[1].Name != "1.target" || g.Nodes[2].Name != "10.target" {
			t.Errorf("%+v", g)
		}
		slices.Reverse(l)
	}
	// Each of two targets names the other one often, and is not after it.
	pair := units(t, "a.target default after=b.target\nb.target default after=a.target")
	for i, other := range []string{"b.target", "a.target"} {
		pair[i].U.Rels = append(slices.Repeat([]api.Rel{{Kind: api.RWants, Name: other}}, many), pair[i].U.Rels...)
		pair[i].Wants = slices.Repeat([]string{other, "x.target"}, many)
		pair[i].Requires = slices.Repeat([]string{other, "y.target"}, many)
		pair[i].U.Sockets = slices.Repeat([]string{other}, many)
	}
	checkText(t, "edges", edgesText(graph.Of(pair).Edges), "a.target requires b.target, a.target wants b.target, a.target after b.target, b.target requires a.target, b.target wants a.target, b.target after a.target")
}

// P0.1: every call ends, whatever numbers it is given.
func TestOddNumbers(t *testing.T) {
	for _, n := range []int{math.MinInt, math.MinInt + 1, -1, 0, 11, 64, 1 << 40, math.MaxInt} {
		g := graph.Of([]api.Loaded{{Name: "a.target", State: n, U: api.Unit{Kind: n, Default: true}}, {Name: "b.target", State: 1, U: api.Unit{Kind: n, Rels: []api.Rel{{Kind: n, Name: "a.target"}}}}})
		checkText(t, "nodes", nodesText(g.Nodes), "a.target 4 4, b.target 4 1")
		checkText(t, "edges", edgesText(g.Edges), "")
		checkEnds(t, g, "a.target", n, "", "")
		checkMay(t, "odd", api.Graph{Nodes: []api.Node{{Name: "a.target", Kind: n, State: n}}, Edges: []api.Edge{{Rel: n}}}, false)
	}
}
