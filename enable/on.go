package enable

import (
	"cmp"
	"iter"
	"slices"
	"strings"

	"matins/api"
	"matins/name"
)

// plan is what enabling units adds to files.
type plan struct {
	links map[string]string // by Path: of what is there, and of what is added
	added []api.File
	asked bool // whether any link was requested, also one that is there
	// Whether a text may have the key Alias, and whether one may have WantedBy or
	// RequiredBy.
	hasAlias, hasBy bool
}

// On returns files with the links that enable a unit and those that are to be
// enabled along with it.
func On(files []api.File, unit string) ([]api.File, api.Errno) {
	if _, _, fault := Read(files, unit); fault.Code != api.OK {
		return nil, fault.Code
	}
	p := planFor(files)
	for u := range together(files, unit) {
		if !p.take(u) {
			return nil, api.ErrTwice
		}
		if p.isSettled() {
			break
		}
	}
	switch {
	case !p.asked:
		return nil, api.ErrNone
	case p.isFull():
		return nil, api.ErrFull
	}
	slices.SortFunc(p.added, func(a, b api.File) int { return cmp.Compare(a.Path, b.Path) })
	return slices.Concat(files, p.added), api.OK
}

// together yields the unit that a name stands for, those of the names that its
// Also has, and so on. A unit with several of these names comes several times.
func together(files []api.File, unit string) iter.Seq[api.Unit] {
	return func(yield func(api.Unit) bool) {
		names := []string{unit}
		seen := map[string]bool{unit: true}
		for len(names) > 0 {
			u, _, fault := Read(files, names[0])
			names = names[1:]
			if fault.Code != api.OK {
				continue
			}
			if !yield(u) {
				return
			}
			for _, other := range u.Also {
				if !seen[other] {
					seen[other] = true
					names = append(names, other)
				}
			}
		}
	}
}

// planFor returns a plan that adds nothing yet to files.
func planFor(files []api.File) *plan {
	p := &plan{links: map[string]string{}}
	for _, file := range files {
		p.links[file.Path] = file.Link
		p.hasAlias = p.hasAlias || strings.Contains(file.Text, "Alias")
		p.hasBy = p.hasBy || strings.Contains(file.Text, "WantedBy") || strings.Contains(file.Text, "RequiredBy")
	}
	return p
}

// take requests the links of a unit, and reports whether its aliases may be.
func (p *plan) take(u api.Unit) bool {
	for _, target := range u.WantedBy {
		p.request(target+wants+u.Name, u.Name)
	}
	for _, target := range u.RequiredBy {
		p.request(target+requires+u.Name, u.Name)
	}
	for _, alias := range u.Alias {
		if !p.request(alias, u.Name) || name.Kind(alias) != u.Kind {
			return false
		}
	}
	return true
}

// request adds a link, unless its path is there already, and reports whether the
// path has that link now.
func (p *plan) request(base, link string) bool {
	p.asked = true
	path := etc + base
	if there, ok := p.links[path]; ok {
		return there == link
	}
	p.links[path] = link
	p.added = append(p.added, api.File{Path: path, Link: link})
	return true
}

func (p *plan) isFull() bool {
	return len(p.links) > api.MaxFiles
}

// isSettled reports whether it is sure that no further unit can change what On
// returns. Without this, a template whose Also names two longer instances of it
// would lead to more units than can be gone through.
func (p *plan) isSettled() bool {
	if p.hasAlias {
		return false // any further alias may be there already
	}
	return p.isFull() || !p.hasBy
}
