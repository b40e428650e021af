package graph_test

import (
	"fmt"
	"maps"
	"math/rand"
	"regexp"
	"slices"
	"strings"
	"testing"

	"matins/api"
	"matins/graph"
	"matins/load"
	"matins/unit"
)

// These tests hold the package against the chapter, word by word: instead of
// building edges, the model says of each edge whether it is there.

var unitName = regexp.MustCompile(`^[-a-zA-Z0-9:_.\\]+(@[-a-zA-Z0-9:_.\\]*)?\.(service|socket|timer|target)$`)

func isName(s string) bool { return len(s) <= 60 && unitName.MatchString(s) }

// model is the graph of loaded units as the chapter describes it.
type model struct {
	first map[string]api.Loaded
	names []string
}

func modelOf(l []api.Loaded) model {
	m := model{first: map[string]api.Loaded{}}
	for _, x := range slices.Backward(l) {
		if isName(x.Name) {
			m.first[x.Name] = x
		}
	}
	m.names = slices.Sorted(maps.Keys(m.first))
	m.names = m.names[:min(len(m.names), 64)]
	return m
}

func (m model) graph() api.Graph {
	var g api.Graph
	for _, name := range m.names {
		state := m.first[name].State
		if state < 1 || state > 4 {
			state = 4
		}
		g.Nodes = append(g.Nodes, api.Node{Name: name, Kind: kindOf(name), State: state})
	}
	for _, from := range m.names {
		for _, to := range m.names {
			for rel := 1; rel <= 10; rel++ {
				if from != to && m.first[from].State == 1 && m.edge(m.first[from], to, rel) {
					g.Edges = append(g.Edges, api.Edge{From: from, To: to, Rel: rel})
				}
			}
		}
	}
	return g
}

// edge reports whether a unit contributes an edge.
func (m model) edge(x api.Loaded, to string, rel int) bool {
	return rel <= 9 && slices.Contains(x.U.Rels, api.Rel{Kind: rel, Name: to}) ||
		rel == api.RWants && slices.Contains(x.Wants, to) ||
		rel == api.RRequires && slices.Contains(x.Requires, to) ||
		edgeOfKind(x, to, rel) ||
		x.U.Default && (defaultEdge(x, to, rel) || m.targetEdge(x, to, rel))
}

func edgeOfKind(x api.Loaded, to string, rel int) bool {
	switch kindOf(x.Name) {
	case api.KService:
		return slices.Contains([]int{api.RWants, api.RAfter}, rel) && slices.Contains(x.U.Sockets, to)
	case api.KSocket, api.KTimer:
		return slices.Contains([]int{api.RTriggers, api.RBefore}, rel) && to == unit.Wakes(x.U)
	}
	return false
}

func defaultEdge(x api.Loaded, to string, rel int) bool {
	kind := kindOf(x.Name)
	switch {
	case kind == api.KTarget:
		return false
	case to == "sysinit.target":
		return rel == api.RAfter || rel == api.RRequires && kind == api.KService
	case to == "shutdown.target":
		return rel == api.RConflicts || rel == api.RBefore
	}
	return false
}

func (m model) targetEdge(x api.Loaded, to string, rel int) bool {
	if kindOf(x.Name) != api.KTarget || rel != api.RAfter {
		return false
	}
	pulled := slices.Contains(x.U.Rels, api.Rel{Kind: api.RRequires, Name: to}) || slices.Contains(x.U.Rels, api.Rel{Kind: api.RWants, Name: to}) ||
		slices.Contains(x.Wants, to) || slices.Contains(x.Requires, to)
	other := m.first[to]
	return pulled && !(other.State == 1 && slices.Contains(other.U.Rels, api.Rel{Kind: api.RAfter, Name: x.Name}))
}

// modelMay says of a graph whether it is valid.
func modelMay(g api.Graph) bool {
	var names, edges []string
	loaded := map[string]bool{}
	for _, n := range g.Nodes {
		if !isName(n.Name) || n.Kind != kindOf(n.Name) || !slices.Contains([]int{1, 2, 3, 4}, n.State) {
			return false
		}
		names = append(names, n.Name)
		loaded[n.Name] = n.State == 1
	}
	for _, e := range g.Edges {
		if !loaded[e.From] || !slices.Contains(names, e.To) || e.From == e.To || e.Rel < 1 || e.Rel > 10 {
			return false
		}
		edges = append(edges, fmt.Sprintf("%s\x00%s\x00%02d", e.From, e.To, e.Rel))
	}
	return len(names) <= 64 && ascends(names) && ascends(edges)
}

func ascends(list []string) bool {
	sorted := slices.Compact(slices.Sorted(slices.Values(list)))
	return slices.Equal(list, sorted)
}

func pick[T any](random *rand.Rand, l ...T) T { return l[random.Intn(len(l))] }

func someName(random *rand.Rand) string {
	switch random.Intn(12) {
	case 0:
		return pick(random, "sysinit.target", "shutdown.target")
	case 1:
		return pick(random, "", "a", "none.target", "a.mount", "A.target", "a@.service", "a@b.service")
	}
	return pick(random, "a", "b", "c") + pick(random, ".service", ".socket", ".timer", ".target", ".target")
}

func someNames(random *rand.Rand, most int) []string {
	var list []string
	for range random.Intn(most) {
		list = append(list, someName(random))
	}
	return list
}

// someUnit returns a loaded unit, of which the U may be that of another one.
func someUnit(random *rand.Rand) api.Loaded {
	name := someName(random)
	x := api.Loaded{Name: name, State: 1, Wants: someNames(random, 3), Requires: someNames(random, 3)}
	x.U = api.Unit{Name: name, Default: random.Intn(2) == 0, Sockets: someNames(random, 3)}
	if isName(name) {
		x.U.Kind = kindOf(name)
	}
	if random.Intn(12) == 0 {
		x.U.Name, x.U.Kind = someName(random), random.Intn(6)
	}
	if random.Intn(3) == 0 {
		x.U.Unit = someName(random)
	}
	if random.Intn(6) == 0 {
		x.State = random.Intn(7) - 1
	}
	for range random.Intn(12) {
		kind := pick(random, random.Intn(12), api.RAfter, api.RAfter, api.RWants)
		x.U.Rels = append(x.U.Rels, api.Rel{Kind: kind, Name: someName(random)})
	}
	return x
}

func someUnits(random *rand.Rand) []api.Loaded {
	var l []api.Loaded
	for range random.Intn(pick(random, 4, 12, 30)) {
		l = append(l, someUnit(random))
	}
	if random.Intn(20) == 0 {
		for range 80 {
			l = append(l, api.Loaded{Name: fmt.Sprintf("%s%d.target", pick(random, "A", "f", "zz"), random.Intn(200)), State: 1, Wants: someNames(random, 4)})
		}
		random.Shuffle(len(l), func(i, j int) { l[i], l[j] = l[j], l[i] })
	}
	return l
}

func TestRandomUnits(t *testing.T) {
	random := rand.New(rand.NewSource(15))
	came := map[string]int{}
	for range 2000 {
		l := someUnits(random)
		g, want := graph.Of(l), modelOf(l).graph()
		if flat(g) != flat(want) {
			t.Fatalf("Of(%+v) = %+v, want %+v", l, g, want)
		}
		if !graph.May(g) {
			t.Fatalf("Of(%+v) = %+v, which may not be", l, g)
		}
		checkOfGraph(t, random, g)
		count(came, l, g)
	}
	checkCame(t, came, append([]string{"full", "fewer nodes", "after left out"}, words[1:]...))
}

// checkOfGraph checks what Node, Out and In say of a graph.
func checkOfGraph(t *testing.T, random *rand.Rand, g api.Graph) {
	t.Helper()
	for range 5 {
		name, rel := someName(random), random.Intn(12)
		var out, in []string
		for _, e := range g.Edges {
			if e.From == name && e.Rel == rel {
				out = append(out, e.To)
			}
			if e.To == name && e.Rel == rel {
				in = append(in, e.From)
			}
		}
		checkEnds(t, g, name, rel, strings.Join(out, " "), strings.Join(in, " "))
		i := slices.IndexFunc(g.Nodes, func(n api.Node) bool { return n.Name == name })
		if i < 0 {
			checkNode(t, g, name, api.Node{}, false)
		} else {
			checkNode(t, g, name, g.Nodes[i], true)
		}
	}
}

// count counts what the tests have met.
func count(came map[string]int, l []api.Loaded, g api.Graph) {
	if len(g.Nodes) == 64 {
		came["full"]++
	}
	if len(g.Nodes) < len(l) {
		came["fewer nodes"]++
	}
	for _, e := range g.Edges {
		came[words[e.Rel]]++
		back := api.Edge{From: e.To, To: e.From, Rel: api.RAfter}
		if e.Rel == api.RWants && kindOf(e.From) == api.KTarget && slices.Contains(g.Edges, back) {
			came["after left out"]++
		}
	}
}

func checkCame(t *testing.T, came map[string]int, all []string) {
	t.Helper()
	for _, what := range all {
		if came[what] < 30 {
			t.Errorf("%s came only %d times", what, came[what])
		}
	}
}

// spoilt returns a graph that differs a little from a valid one.
func spoilt(random *rand.Rand, g api.Graph) api.Graph {
	g.Nodes, g.Edges = slices.Clone(g.Nodes), slices.Clone(g.Edges)
	if len(g.Nodes) < 2 || len(g.Edges) < 2 {
		return g
	}
	i, j := random.Intn(len(g.Nodes)), random.Intn(len(g.Nodes))
	m, n := random.Intn(len(g.Edges)), random.Intn(len(g.Edges))
	node, edge := &g.Nodes[i], &g.Edges[m]
	switch random.Intn(12) {
	case 0:
		node.Name = someName(random)
	case 1:
		node.Kind = random.Intn(6)
	case 2:
		node.State = random.Intn(6)
	case 3:
		g.Nodes[i], g.Nodes[j] = g.Nodes[j], g.Nodes[i]
	case 4:
		g.Nodes = slices.Delete(g.Nodes, i, i+1)
	case 5:
		g.Nodes = slices.Insert(g.Nodes, i, g.Nodes[j])
	case 6:
		edge.From = someName(random)
	case 7:
		edge.To = someName(random)
	case 8:
		edge.Rel = random.Intn(13) - 1
	case 9:
		g.Edges[m], g.Edges[n] = g.Edges[n], g.Edges[m]
	case 10:
		g.Edges = slices.Delete(g.Edges, m, m+1)
	case 11:
		g.Edges = slices.Insert(g.Edges, m, g.Edges[n])
	}
	return g
}

func TestRandomMay(t *testing.T) {
	random := rand.New(rand.NewSource(16))
	came := map[string]int{}
	for range 1000 {
		g := modelOf(someUnits(random)).graph()
		for range 20 {
			with := spoilt(random, g)
			want := modelMay(with)
			if graph.May(with) != want {
				t.Fatalf("May(%+v) = %t", with, !want)
			}
			came[fmt.Sprint(want)]++
		}
	}
	checkCame(t, came, []string{"true", "false"})
}

// The graph of units that are loaded from their files.
func TestLoaded(t *testing.T) {
	files := []api.File{
		{Path: "lib/a.target", Text: "[Unit]\nRequires=b.service\nAfter=l.service\n"},
		{Path: "etc/a.target.wants/t.timer", Link: "t.timer"},
		{Path: "etc/l.service", Link: "b.service"},
		{Path: "lib/b.service", Text: "[Unit]\nAfter=m.service\n[Service]\nExecStart=/b\nSockets=s.socket\n"},
		{Path: "lib/s.socket", Text: "[Unit]\nDefaultDependencies=no\n[Socket]\nListenStream=1\nService=l.service\n"},
		{Path: "lib/t.timer", Text: "[Timer]\nOnBootSec=1\nUnit=l.service\n"},
		{Path: "etc/m.service", Link: "null"},
		{Path: "lib/sysinit.target"},
	}
	l := load.All(files, []string{"a.target", "none.socket"})
	g := graph.Of(l)
	checkText(t, "nodes", nodesText(g.Nodes), "a.target 4 1, b.service 1 1, m.service 1 3, none.socket 2 2, s.socket 2 1, sysinit.target 4 1, t.timer 3 1")
	checkText(t, "edges", edgesText(g.Edges), "a.target requires b.service, a.target after b.service, a.target wants t.timer, a.target after t.timer, b.service after m.service, b.service wants s.socket, b.service after s.socket, b.service requires sysinit.target, b.service after sysinit.target, "+
		"s.socket before b.service, s.socket triggers b.service, t.timer before b.service, t.timer triggers b.service, t.timer after sysinit.target")
	if !graph.May(g) || flat(g) != flat(modelOf(l).graph()) {
		t.Errorf("%+v", g)
	}
}
