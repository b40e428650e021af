package graph_test

import (
	"fmt"
	"math"
	"slices"
	"strings"
	"testing"

	"matins/api"
	"matins/graph"
)

// checkNodes checks the nodes of the graph of units, in the order that they are
// given in.
func checkNodes(t *testing.T, l []api.Loaded, want string) {
	t.Helper()
	g := graph.Of(l)
	checkText(t, "nodes", nodesText(g.Nodes), want)
	if !graph.May(g) {
		t.Errorf("%+v may not be", g)
	}
}

// P15.2: the nodes have the names and the kinds of the units, in ascending order.
func TestOfNodes(t *testing.T) {
	checkNodes(t, nil, "")
	checkNodes(t, units(t, "d.timer\na.service\nc.target\nb.socket"), "a.service 1 1, b.socket 2 1, c.target 4 1, d.timer 3 1")
	checkNodes(t, units(t, "a.target\na@.target\na@b.target\na-.target\nA.target"), "A.target 4 1, a-.target 4 1, a.target 4 1, a@.target 4 1, a@b.target 4 1")
	// The kind is that of the Name, whatever U says.
	for kind := -2; kind < 7; kind++ {
		checkNodes(t, []api.Loaded{{Name: "a.socket", State: api.LLoaded, U: api.Unit{Name: "b.timer", Kind: kind}}}, "a.socket 2 1")
	}
}

// P15.2: elements whose Name is no unit name are left out.
func TestOfNoNames(t *testing.T) {
	for _, name := range []string{"", "a", "?", "a.mount", ".service", "@.service", "a b.service", "é.service", "a.Service", strings.Repeat("a", 60) + ".service"} {
		l := units(t, "a.service wants=b.service\nb.service")
		l = append(l, api.Loaded{Name: name, State: api.LLoaded, U: api.Unit{Name: "c.service", Kind: 1, Default: true, Rels: []api.Rel{{Kind: api.RWants, Name: "a.service"}}}})
		l[0].U.Rels = append(l[0].U.Rels, api.Rel{Kind: api.RAfter, Name: name})
		for range l {
			checkNodes(t, l, "a.service 1 1, b.service 1 1")
			checkText(t, name, edgesText(graph.Of(l).Edges), "a.service wants b.service")
			l = append(l[1:], l[0])
		}
	}
}

// P15.2: a node has the State of the element, or LBad.
func TestOfStates(t *testing.T) {
	for _, state := range []int{math.MinInt, -1, 0, 1, 2, 3, 4, 5, 6, 9, 257, 1 + 1<<32, math.MaxInt} {
		want := 4
		if 1 <= state && state <= 4 {
			want = state
		}
		l := []api.Loaded{{Name: "b.timer", State: 2}, {Name: "a.timer", State: state}}
		checkNodes(t, l, fmt.Sprintf("a.timer 3 %d, b.timer 3 2", want))
	}
}

// P15.2: of several elements with the same Name only the first one counts.
func TestOfSameName(t *testing.T) {
	for text, want := range map[string]string{
		"a.target\na.target state=2":                                          "a.target 4 1",
		"a.target state=2\na.target":                                          "a.target 4 2",
		"a.target state=9\na.target\na.target state=2":                        "a.target 4 4",
		"b.target state=3\na.target state=2\nb.target\na.target\nb.target":    "a.target 4 2, b.target 4 3",
		"c.target\nb.target state=3\na.target\nc.target state=4\nb.target":    "a.target 4 1, b.target 4 3, c.target 4 1",
		"a.target state=0\nc.target\nb.target\na.target state=3\nA.target":    "A.target 4 1, a.target 4 4, b.target 4 1, c.target 4 1",
		"a.target\nb.target state=2\nb.target state=3\nb.target\na.target":    "a.target 4 1, b.target 4 2",
		"b.target state=4\nb.target state=3\nb.target state=2\nb.target":      "b.target 4 4",
		"a.service state=2\na.socket state=3\na.timer state=4\na.service\n":   "a.service 1 2, a.socket 2 3, a.timer 3 4",
		"x@a.target state=2\nx@.target\nx.target state=4\nx@a.target state=3": "x.target 4 4, x@.target 4 1, x@a.target 4 2",
	} {
		checkNodes(t, units(t, text), want)
	}
	for text, want := range map[string]string{
		// The edges are those of the first one as well.
		"a.target wants=b.target\na.target after=b.target\nb.target":         "a.target wants b.target",
		"a.target after=b.target\na.target wants=b.target\nb.target":         "a.target after b.target",
		"b.target\na.target state=2\na.target wants=b.target":                "",
		"b.target\na.target state=9\na.target wants=b.target":                "",
		"b.target\na.target\na.target +wants=b.target":                       "",
		"b.target\na.target wants=b.target\na.target state=2":                "a.target wants b.target",
		"b.target\na.target\na.target default wants=b.target\na.target":      "",
		"a.target default wants=b.target\nb.target\nb.target after=a.target": "a.target wants b.target, a.target after b.target",
		"a.target default wants=b.target\nb.target after=a.target\nb.target": "a.target wants b.target, b.target after a.target",
	} {
		l := units(t, text)
		checkText(t, text, edgesText(graph.Of(l).Edges), want)
	}
}

// P15.2: of more than 64 names, the 64 least ones are taken.
func TestOfMany(t *testing.T) {
	for n := 60; n < 140; n++ {
		var l []api.Loaded
		for i, node := range numberedNodes(n) {
			x := api.Loaded{Name: node.Name, State: i%5 + 1, U: api.Unit{Rels: []api.Rel{{Kind: api.RWants, Name: "n063.target"}, {Kind: api.RAfter, Name: "n064.target"}, {Kind: api.RBefore, Name: "n000.target"}}}}
			l = append(l, x)
		}
		want := graph.Of(l[:min(n, 64)])
		for range 7 {
			g := graph.Of(l)
			if flat(g) != flat(want) || !graph.May(g) || len(g.Nodes) != min(n, 64) {
				t.Fatalf("%d: %+v, want %+v", n, g, want)
			}
			l = slices.Concat(l[n/3:], l[:n/3])
			slices.Reverse(l)
		}
		// What is no name, and what is there twice, takes no place.
		with := slices.Concat(l[:3], units(t, "?\n!\nA.mount"), l)
		if g := graph.Of(with); flat(g) != flat(want) {
			t.Fatalf("%d: %+v, want %+v", n, g, want)
		}
	}
	// Of the names that are taken the first element counts, also if one that is not
	// taken was there before.
	var l []api.Loaded
	for _, node := range numberedNodes(70) {
		l = append(l, api.Loaded{Name: node.Name, State: 2}, api.Loaded{Name: node.Name, State: 3})
	}
	for range 2 {
		g := graph.Of(l)
		for _, node := range g.Nodes {
			if node.State != l[0].State {
				t.Fatalf("%+v", g)
			}
		}
		slices.Reverse(l)
	}
}

// P15.2: each Rel with a kind from RRequires to RFailure is an edge.
func TestOfRels(t *testing.T) {
	for rel := api.RRequires; rel <= api.RFailure; rel++ {
		for _, suffix := range suffixes[1:] {
			text := "a." + suffix + " unit=none.service " + words[rel] + "=b.timer\nb.timer"
			checkEdges(t, text, "a."+suffix+" "+words[rel]+" b.timer")
		}
	}
	for _, odd := range []int{math.MinInt, -1, 0, 10, 11, 257, 1 + 1<<32, math.MaxInt} {
		l := units(t, "a.target wants=b.target\nb.target")
		l[0].U.Rels = append(l[0].U.Rels, api.Rel{Kind: odd, Name: "b.target"}, api.Rel{Kind: api.RBefore, Name: "b.target"})
		checkText(t, "odd", edgesText(graph.Of(l).Edges), "a.target wants b.target, a.target before b.target")
	}
	checkEdges(t, "b.target after=a.target,c.target before=a.target\nc.target failure=b.target,a.target\na.target",
		"b.target before a.target, b.target after a.target, b.target after c.target, c.target failure a.target, c.target failure b.target")
	checkEdges(t, "a.target wants=b.target\nb.target wants=c.target\nc.target wants=a.target", "a.target wants b.target, b.target wants c.target, c.target wants a.target")
}

// P15.2: RWants to each name of Wants, RRequires to each name of Requires.
func TestOfLinks(t *testing.T) {
	for _, suffix := range suffixes[1:] {
		a := "a." + suffix
		checkEdges(t, a+" +wants=c.target,b.target unit=x.service\nb.target\nc.target", a+" wants b.target, "+a+" wants c.target")
		checkEdges(t, a+" +requires=c.target,b.target unit=x.service\nb.target\nc.target", a+" requires b.target, "+a+" requires c.target")
		checkEdges(t, a+" +requires=b.target +wants=b.target,c.target unit=x.service\nb.target\nc.target", a+" requires b.target, "+a+" wants b.target, "+a+" wants c.target")
	}
	checkEdges(t, "a.target +wants=b.target wants=b.target requires=b.target +requires=b.target\nb.target +wants=a.target", "a.target requires b.target, a.target wants b.target, b.target wants a.target")
}

// P15.2: sockets and timers have RTriggers and RBefore to what they start.
func TestOfWakes(t *testing.T) {
	for text, want := range map[string]string{
		"a.socket\na.service":                                                "a.socket before a.service, a.socket triggers a.service",
		"a.timer\na.service":                                                 "a.timer before a.service, a.timer triggers a.service",
		"a.socket unit=b.service\na.service\nb.service":                      "a.socket before b.service, a.socket triggers b.service",
		"a.timer unit=b.target\na.service\nb.target":                         "a.timer before b.target, a.timer triggers b.target",
		"a.timer unit=a.timer\na.service":                                    "",
		"a.timer unit=none.target\na.service":                                "",
		"a.socket unit=none.service\na.service":                              "",
		"a.timer\nb.service":                                                 "",
		"x@i.socket\nx@i.service\nx@.service\nx.service":                     "x@i.socket before x@i.service, x@i.socket triggers x@i.service",
		"a.service unit=b.service\nb.service":                                "",
		"a.target unit=b.service\nb.service\na.service":                      "",
		"a.service unit=b.service default\nb.service":                        "",
		"a.socket triggers=b.service\na.service\nb.service":                  "a.socket before a.service, a.socket triggers a.service",
		"a.socket before=a.service after=a.service\na.service":               "a.socket before a.service, a.socket after a.service, a.socket triggers a.service",
		"a.socket state=2\na.timer state=3\nb.socket state=4\na.service\n":   "",
		"a.socket unit=x.service\nb.timer unit=x.service\nx.service state=2": "a.socket before x.service, a.socket triggers x.service, b.timer before x.service, b.timer triggers x.service",
	} {
		checkEdges(t, text, want)
	}
	// What is started is what unit.Wakes says of U, but the kind is that of the Name.
	for _, x := range []struct {
		name string
		u    api.Unit
		want string
	}{
		{"a.socket", api.Unit{Name: "b.socket", Kind: api.KSocket}, "a.socket before b.service, a.socket triggers b.service"},
		{"a.socket", api.Unit{Name: "b.socket", Kind: api.KTimer}, "a.socket before b.service, a.socket triggers b.service"},
		{"a.timer", api.Unit{Name: "?", Kind: api.KTimer}, ""},
		{"a.timer", api.Unit{Name: "?", Kind: api.KTimer, Unit: "a.service"}, "a.timer before a.service, a.timer triggers a.service"},
		{"a.timer", api.Unit{Name: "a.timer", Unit: "a.service"}, ""},
		{"a.socket", api.Unit{Name: "a.socket", Kind: api.KService, Unit: "a.service"}, ""},
		{"c.service", api.Unit{Name: "b.socket", Kind: api.KSocket, Unit: "a.service"}, ""},
		{"c.target", api.Unit{Name: "b.socket", Kind: api.KSocket}, ""},
	} {
		l := append(units(t, "a.service\nb.service"), api.Loaded{Name: x.name, State: api.LLoaded, U: x.u})
		checkText(t, fmt.Sprintf("%+v", x.u), edgesText(graph.Of(l).Edges), x.want)
	}
}

// P15.2: services have RWants and RAfter to their Sockets.
func TestOfSockets(t *testing.T) {
	for text, want := range map[string]string{
		"a.service sockets=x.socket\nx.socket unit=none.service":                                    "a.service wants x.socket, a.service after x.socket",
		"a.service sockets=y.socket,x.socket\nx.socket unit=y.service\ny.socket":                    "a.service wants x.socket, a.service after x.socket, a.service wants y.socket, a.service after y.socket",
		"a.service sockets=a.socket\na.socket":                                                      "a.service wants a.socket, a.service after a.socket, a.socket before a.service, a.socket triggers a.service",
		"a.service sockets=x.socket,a.service,none.socket wants=x.socket\nx.socket state=4":         "a.service wants x.socket, a.service after x.socket",
		"a.service sockets=b.target,b.service\nb.target\nb.service":                                 "a.service wants b.service, a.service after b.service, a.service wants b.target, a.service after b.target",
		"a.service sockets=b.target,b.target,b.target\nb.target":                                    "a.service wants b.target, a.service after b.target",
		"a.service state=2 sockets=b.target\nb.target":                                              "",
		"a.target sockets=b.target\nb.target":                                                       "",
		"a.target default sockets=b.target\nb.target":                                               "",
		"a.socket sockets=b.target\nb.target":                                                       "",
		"a.timer sockets=b.target\nb.target":                                                        "",
		"a.service sockets=b.target requires=b.target before=b.target +requires=b.target\nb.target": "a.service requires b.target, a.service wants b.target, a.service before b.target, a.service after b.target",
	} {
		checkEdges(t, text, want)
	}
	l := append(units(t, "b.target"), api.Loaded{Name: "a.service", State: 1, U: api.Unit{Name: "a.timer", Kind: api.KTimer, Sockets: []string{"b.target"}}})
	checkText(t, "the kind of the Name", edgesText(graph.Of(l).Edges), "a.service wants b.target, a.service after b.target")
}

// both are the targets of the default dependencies.
const both = "\nsysinit.target\nshutdown.target"

// P15.2: the default dependencies of services, sockets and timers.
func TestOfDefault(t *testing.T) {
	service := "a.service conflicts shutdown.target, a.service before shutdown.target, a.service requires sysinit.target, a.service after sysinit.target"
	for text, want := range map[string]string{
		"a.service default" + both:                                                              service,
		"a.socket default unit=none.service" + both:                                             "a.socket conflicts shutdown.target, a.socket before shutdown.target, a.socket after sysinit.target",
		"a.timer default unit=none.service" + both:                                              "a.timer conflicts shutdown.target, a.timer before shutdown.target, a.timer after sysinit.target",
		"a.target default" + both:                                                               "",
		"sysinit.target default\nshutdown.target default\na.target default":                     "",
		"a.service default\nsysinit.target":                                                     "a.service requires sysinit.target, a.service after sysinit.target",
		"a.service default\nshutdown.target":                                                    "a.service conflicts shutdown.target, a.service before shutdown.target",
		"a.socket default\nsysinit.target":                                                      "a.socket after sysinit.target",
		"a.timer default\nshutdown.target":                                                      "a.timer conflicts shutdown.target, a.timer before shutdown.target",
		"a.service default\nsysinit.service\nshutdown.service\nsysinit.timer unit=none.service": "",
		// Without Default, and for what is not loaded, there are none.
		"a.service" + both:                 "",
		"a.socket" + both:                  "",
		"a.timer" + both:                   "",
		"a.service default state=2" + both: "",
		"a.service default state=3" + both: "",
		"a.service default state=4" + both: "",
		"a.service default state=9" + both: "",
		"a.socket default state=4" + both:  "",
		"a.timer default state=0" + both:   "",
		// In whichever state the targets are.
		"a.service default\nsysinit.target state=2\nshutdown.target state=4": service,
		// They come beside what the unit itself says.
		"a.service default wants=sysinit.target before=sysinit.target after=shutdown.target" + both:                                                       "a.service conflicts shutdown.target, a.service before shutdown.target, a.service after shutdown.target, a.service requires sysinit.target, a.service wants sysinit.target, a.service before sysinit.target, a.service after sysinit.target",
		"a.service default requires=sysinit.target after=sysinit.target before=shutdown.target conflicts=shutdown.target +requires=sysinit.target" + both: service,
	} {
		checkEdges(t, text, want)
	}
	// The kind is that of the Name.
	l := append(units(t, both), api.Loaded{Name: "a.service", State: 1, U: api.Unit{Name: "a.target", Kind: api.KTarget, Default: true}})
	checkText(t, "the kind of the Name", edgesText(graph.Of(l).Edges), service)
}

// P15.2: targets come after what they require or want, unless that says otherwise.
func TestOfDefaultTarget(t *testing.T) {
	for text, want := range map[string]string{
		"a.target default requires=b.target\nb.target":                                           "a.target requires b.target, a.target after b.target",
		"a.target default wants=b.target\nb.target":                                              "a.target wants b.target, a.target after b.target",
		"a.target default +requires=b.target\nb.target":                                          "a.target requires b.target, a.target after b.target",
		"a.target default +wants=b.target\nb.target":                                             "a.target wants b.target, a.target after b.target",
		"a.target requires=b.target wants=b.target +wants=b.target +requires=b.target\nb.target": "a.target requires b.target, a.target wants b.target",
		"a.target default requisite=b.target binds=b.target part=b.target conflicts=b.target before=b.target failure=b.target\nb.target": "a.target requisite b.target, a.target binds b.target, a.target part b.target, a.target conflicts b.target, a.target before b.target, a.target failure b.target",
		"a.target default requires=e.target wants=d.target +wants=c.target +requires=b.target\nb.target\nc.target\nd.target\ne.target":   "a.target requires b.target, a.target after b.target, a.target wants c.target, a.target after c.target, a.target wants d.target, a.target after d.target, a.target requires e.target, a.target after e.target",
		"a.target default wants=b.service,c.socket,d.timer\nb.service\nc.socket unit=x.service\nd.timer unit=x.service":                  "a.target wants b.service, a.target after b.service, a.target wants c.socket, a.target after c.socket, a.target wants d.timer, a.target after d.timer",
		"a.target default wants=a.target,none.target +wants=a.target,none.target":                                                        "",
		"a.target default wants=sysinit.target" + both:                                                                                   "a.target wants sysinit.target, a.target after sysinit.target",
		// Not after what comes after them by its Rels.
		"a.target default wants=b.target\nb.target after=a.target":                                   "a.target wants b.target, b.target after a.target",
		"a.target default requires=b.target\nb.target after=a.target":                                "a.target requires b.target, b.target after a.target",
		"a.target default +wants=b.target\nb.target after=x.target,a.target":                         "a.target wants b.target, b.target after a.target",
		"a.target default +requires=b.target\nb.target wants=x.target after=a.target":                "a.target requires b.target, b.target after a.target",
		"a.target default wants=b.target,c.target\nb.target after=a.target\nc.target":                "a.target wants b.target, a.target wants c.target, a.target after c.target, b.target after a.target",
		"a.target default wants=b.service\nb.service after=a.target":                                 "a.target wants b.service, b.service after a.target",
		"a.target default wants=b.target,c.target\nb.target after=c.target\nc.target after=b.target": "a.target wants b.target, a.target after b.target, a.target wants c.target, a.target after c.target, b.target after c.target, c.target after b.target",
		"a.target default wants=b.target after=b.target\nb.target after=a.target":                    "a.target wants b.target, a.target after b.target, b.target after a.target",
		"a.target default wants=b.target\nb.target before=a.target":                                  "a.target wants b.target, a.target after b.target, b.target before a.target",
		"a.target default wants=b.target before=b.target\nb.target":                                  "a.target wants b.target, a.target before b.target, a.target after b.target",
		"a.target default wants=b.target\nb.target requires=a.target wants=a.target binds=a.target":  "a.target wants b.target, a.target after b.target, b.target requires a.target, b.target wants a.target, b.target binds a.target",
		"a.target default wants=b.target,c.target\nb.target after=c.target\nc.target":                "a.target wants b.target, a.target after b.target, a.target wants c.target, a.target after c.target, b.target after c.target",
		// If that is not loaded, what it has among its Rels is nothing.
		"a.target default wants=b.target\nb.target after=a.target state=2": "a.target wants b.target, a.target after b.target",
		"a.target default wants=b.target\nb.target after=a.target state=3": "a.target wants b.target, a.target after b.target",
		"a.target default wants=b.target\nb.target after=a.target state=4": "a.target wants b.target, a.target after b.target",
		"a.target default wants=b.target\nb.target after=a.target state=9": "a.target wants b.target, a.target after b.target",
		// An edge RAfter that does not come from Rels counts as nothing.
		"a.target default wants=b.service\nb.service sockets=a.target":                                   "a.target wants b.service, a.target after b.service, b.service wants a.target, b.service after a.target",
		"a.target default wants=b.target\nb.target default wants=a.target":                               "a.target wants b.target, a.target after b.target, b.target wants a.target, b.target after a.target",
		"sysinit.target default wants=b.service\nb.service default":                                      "b.service requires sysinit.target, b.service after sysinit.target, sysinit.target wants b.service, sysinit.target after b.service",
		"sysinit.target default wants=b.service\nb.service default after=sysinit.target":                 "b.service requires sysinit.target, b.service after sysinit.target, sysinit.target wants b.service",
		"a.target default wants=b.target\nb.target default wants=a.target after=a.target":                "a.target wants b.target, b.target wants a.target, b.target after a.target",
		"a.target default wants=b.target after=b.target\nb.target default wants=a.target after=a.target": "a.target wants b.target, a.target after b.target, b.target wants a.target, b.target after a.target",
		"a.target default state=4 wants=b.target\nb.target":                                              "",
	} {
		checkEdges(t, text, want)
	}
}

// P15.2: edges to no nodes and to the unit itself are left out, and each edge is
// present once.
func TestOfLeftOut(t *testing.T) {
	for text, want := range map[string]string{
		"a.service wants=a.service after=a.service,b.service,b.service,b.service after=b.service failure=x.service\nb.service": "a.service after b.service",
		"a.service +wants=a.service,b.service,b.service,none.service +requires=a.service,null,b.service\nb.service":            "a.service requires b.service, a.service wants b.service",
		"a.service requires=A.service,a.socket,,b.service.,b\nb.service":                                                       "",
		"a.socket unit=a.socket":                               "",
		"shutdown.target default wants=shutdown.target":        "",
		"a.service wants=b.mount\nb.mount":                     "",
		"a.service sockets=a.service,none.socket,\nb.service":  "",
		"a.service +wants=b.service\nb.service state=2":        "a.service wants b.service",
		"a.service +wants=b.service\nb.service state=9":        "a.service wants b.service",
		"a.service state=2 wants=b.service\nb.service state=2": "",
		"a.service state=3 +wants=b.service\nb.service":        "",
		"a.service state=4 +requires=b.service\nb.service":     "",
		"a.service state=0 +requires=b.service\nb.service":     "",
	} {
		checkEdges(t, text, want)
	}
}
