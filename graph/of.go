package graph

import (
	"slices"
	"strings"

	"matins/api"
	"matins/name"
	"matins/unit"
)

const (
	sysinit  = "sysinit.target"
	shutdown = "shutdown.target"
)

// Of builds the graph of loaded units.
func Of(l []api.Loaded) api.Graph {
	w := web{units: choose(l)}
	for _, x := range w.units {
		if x.State == api.LLoaded {
			w.weave(x)
		}
	}
	slices.SortFunc(w.edges, byEnds)
	return api.Graph{Nodes: nodesOf(w.units), Edges: slices.Compact(w.edges)}
}

// choose returns the units that become nodes, in ascending order of their names. A
// name that 64 lesser ones push out can never come back, so there are never more
// than these to be kept.
func choose(l []api.Loaded) []api.Loaded {
	var units []api.Loaded
	for _, x := range l {
		i, ok := search(units, x.Name)
		if ok || i == api.MaxUnits || !name.May(x.Name) {
			continue
		}
		units = slices.Insert(units, i, x)
		units = units[:min(len(units), api.MaxUnits)]
	}
	return units
}

func nodesOf(units []api.Loaded) []api.Node {
	var nodes []api.Node
	for _, x := range units {
		node := api.Node{Name: x.Name, Kind: name.Kind(x.Name), State: api.LBad}
		if mayState(x.State) {
			node.State = x.State
		}
		nodes = append(nodes, node)
	}
	return nodes
}

// search returns where a name stands, or would stand, among units in ascending
// order of their names, and whether it is there.
func search(units []api.Loaded, own string) (int, bool) {
	return slices.BinarySearchFunc(units, own, func(x api.Loaded, own string) int {
		return strings.Compare(x.Name, own)
	})
}

// web is a graph in the making: its units, and the edges found so far, in any
// order.
type web struct {
	units []api.Loaded
	edges []api.Edge
}

// add adds an edge for each of the relations. What may not be in the graph is left
// out here, so that nothing else has to look for it.
func (w *web) add(from, to string, rels ...int) {
	if _, ok := search(w.units, to); !ok || from == to {
		return
	}
	for _, rel := range rels {
		w.edges = append(w.edges, api.Edge{From: from, To: to, Rel: rel})
	}
}

// weave adds the edges of a unit. Its kind is that of its Name, whatever its U says.
func (w *web) weave(x api.Loaded) {
	w.addNamed(x)
	switch name.Kind(x.Name) {
	case api.KService:
		for _, socket := range x.U.Sockets {
			w.add(x.Name, socket, api.RWants, api.RAfter)
		}
	case api.KSocket, api.KTimer:
		w.add(x.Name, unit.Wakes(x.U), api.RTriggers, api.RBefore)
	}
	if x.U.Default {
		w.addDefault(x)
	}
}

// addNamed adds the edges that a unit or its links name.
func (w *web) addNamed(x api.Loaded) {
	for _, rel := range x.U.Rels {
		if api.RRequires <= rel.Kind && rel.Kind <= api.RFailure {
			w.add(x.Name, rel.Name, rel.Kind)
		}
	}
	for _, wanted := range x.Wants {
		w.add(x.Name, wanted, api.RWants)
	}
	for _, required := range x.Requires {
		w.add(x.Name, required, api.RRequires)
	}
}

// addDefault adds the default dependencies of a unit.
func (w *web) addDefault(x api.Loaded) {
	switch name.Kind(x.Name) {
	case api.KTarget:
		w.addTarget(x)
		return
	case api.KService:
		w.add(x.Name, sysinit, api.RRequires, api.RAfter)
	default:
		w.add(x.Name, sysinit, api.RAfter)
	}
	w.add(x.Name, shutdown, api.RConflicts, api.RBefore)
}

// addTarget puts a target after what it pulls in, unless that says that it comes
// after the target.
func (w *web) addTarget(x api.Loaded) {
	for _, pulled := range pulledBy(x) {
		if !w.saysAfter(pulled, x.Name) {
			w.add(x.Name, pulled, api.RAfter)
		}
	}
}

// pulledBy returns what a unit requires or wants, each name once, so that no unit is
// searched twice however often it is named.
func pulledBy(x api.Loaded) []string {
	list := slices.Concat(x.Wants, x.Requires)
	for _, rel := range x.U.Rels {
		if rel.Kind == api.RRequires || rel.Kind == api.RWants {
			list = append(list, rel.Name)
		}
	}
	return ascending(list)
}

// saysAfter reports whether a unit is loaded and has RAfter to another one among its
// Rels.
func (w *web) saysAfter(own, other string) bool {
	i, ok := search(w.units, own)
	return ok && w.units[i].State == api.LLoaded &&
		slices.Contains(w.units[i].U.Rels, api.Rel{Kind: api.RAfter, Name: other})
}
