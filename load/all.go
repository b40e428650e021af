package load

import (
	"slices"
	"strings"

	"matins/api"
	"matins/disk"
	"matins/unit"
)

// always returns the units that are loaded whether or not any unit names them.
func always(files []api.File) []string {
	return slices.DeleteFunc([]string{"sysinit.target", "shutdown.target"}, func(target string) bool {
		return One(files, target).State == api.LMissing
	})
}

// collect loads what the names of a queue stand for, and what the units that are
// loaded name, in the order in which they are loaded.
func collect(names aliases, queue []string) []api.Loaded {
	var all []api.Loaded
	have := map[string]bool{}
	for next := 0; next < len(queue) && len(all) < api.MaxUnits; next++ {
		own := names.own(queue[next])
		if have[own] {
			continue
		}
		have[own] = true
		l := One(names.files, own)
		all = append(all, l)
		queue = append(queue, named(l)...)
	}
	return all
}

// named returns the names that a unit names. One that is not LLoaded has a zero
// U, which names nothing.
func named(l api.Loaded) []string {
	var list []string
	for _, rel := range l.U.Rels {
		list = append(list, rel.Name)
	}
	list = slices.Concat(list, l.Wants, l.Requires, l.U.Sockets)
	if woken := unit.Wakes(l.U); woken != "" {
		list = append(list, woken)
	}
	return list
}

// aliases tells what names stand for. It looks up each name only once, as units
// name the same ones again and again.
type aliases struct {
	files []api.File
	known map[string]string
}

// own returns the name of the unit that a name stands for: the Name that One
// returns for it, without reading the unit.
func (a aliases) own(alias string) string {
	if own, ok := a.known[alias]; ok {
		return own
	}
	own := alias
	if found, err := disk.Find(a.files, alias); err == api.OK {
		own = found.Name
	}
	a.known[alias] = own
	return own
}

// settle replaces the names in a loaded unit by what they stand for.
func (a aliases) settle(l *api.Loaded) {
	for i := range l.U.Rels {
		l.U.Rels[i].Name = a.own(l.U.Rels[i].Name)
	}
	l.U.Rels = slices.DeleteFunc(once(l.U.Rels), func(r api.Rel) bool { return r.Name == l.Name })
	a.replace(l.U.Sockets)
	l.U.Sockets = once(l.U.Sockets)
	l.Wants = a.others(l.Wants, l.Name)
	l.Requires = a.others(l.Requires, l.Name)
	if woken := unit.Wakes(l.U); woken != "" {
		l.U.Unit = a.own(woken)
	}
}

// replace writes what names stand for in their places.
func (a aliases) replace(list []string) {
	for i := range list {
		list[i] = a.own(list[i])
	}
}

// others returns what names stand for, in ascending order, without the unit that
// has the list.
func (a aliases) others(list []string, owner string) []string {
	a.replace(list)
	slices.Sort(list)
	return without(slices.Compact(list), owner)
}

// once returns a list with the first one of all elements that are equal.
func once[T comparable](list []T) []T {
	var kept []T
	have := map[T]bool{}
	for _, x := range list {
		if !have[x] {
			have[x] = true
			kept = append(kept, x)
		}
	}
	return kept
}

// refusePorts makes each socket bad that has a port of one before it. Only sockets
// have ports.
func refusePorts(all []api.Loaded) {
	taken := map[int]bool{}
	for i, l := range all {
		if slices.ContainsFunc(l.U.Ports, func(port int) bool { return taken[port] }) {
			all[i] = api.Loaded{Name: l.Name, State: api.LBad, Path: l.Path, Fault: api.Fault{Code: api.ErrPort}}
			continue
		}
		for _, port := range l.U.Ports {
			taken[port] = true
		}
	}
}

func byName(a, b api.Loaded) int {
	return strings.Compare(a.Name, b.Name)
}
