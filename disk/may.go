package disk

import (
	"slices"
	"strings"

	"matins/api"
	"matins/name"
)

const (
	null    = "null" // the link that masks a unit
	dropEnd = ".conf"
	maxDrop = 20 // bytes of a drop-in file's name without its end
)

// May reports whether there may be files like these, together.
func May(files []api.File) bool {
	if len(files) > api.MaxFiles {
		return false
	}
	paths := map[string]bool{}
	for _, file := range files {
		if !isSound(file) || paths[file.Path] {
			return false
		}
		paths[file.Path] = true
	}
	return true
}

// isSound reports whether there may be a file like this.
func isSound(file api.File) bool {
	place, rest, _ := strings.Cut(file.Path, "/")
	if len(file.Text) > api.MaxText || !slices.Contains(Places(), place) {
		return false
	}
	folder, base, nested := strings.Cut(rest, "/")
	if !nested {
		return isUnitFile(file, rest)
	}
	point := max(0, strings.LastIndexByte(folder, '.'))
	if !name.May(folder[:point]) {
		return false
	}
	switch folder[point:] {
	case ".d":
		return isDropIn(base) && file.Link == ""
	case ".wants", ".requires":
		return name.May(base) && !isTemplate(base) && file.Text == "" && name.May(file.Link)
	}
	return false
}

// isUnitFile reports whether a file may be the unit file of unit, or a link in
// its place.
func isUnitFile(file api.File, unit string) bool {
	switch {
	case !name.May(unit):
		return false
	case file.Link == "":
		return true
	case file.Text != "":
		return false
	case file.Link == null:
		return true
	}
	return name.Kind(file.Link) == name.Kind(unit) && isTemplate(file.Link) == isTemplate(unit)
}

func isTemplate(unit string) bool {
	_, instance, at := name.Parts(unit)
	return at && instance == ""
}

// isDropIn reports whether a drop-in file may have the name s.
func isDropIn(s string) bool {
	x, ok := strings.CutSuffix(s, dropEnd)
	return ok && 1 <= len(x) && len(x) <= maxDrop && !strings.ContainsFunc(x, isOdd)
}

// isOdd reports whether the name of a drop-in file may not have c before its end.
func isOdd(c rune) bool {
	isPlain := 'a' <= c && c <= 'z' || 'A' <= c && c <= 'Z' || '0' <= c && c <= '9' || c == '-' || c == '_'
	return !isPlain
}
