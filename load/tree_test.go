package load_test

import (
	"fmt"
	"reflect"
	"slices"
	"strconv"
	"strings"
	"testing"

	"matins/api"
	"matins/load"
)

var places = []string{"etc", "run", "lib"}

// tree returns the files that a text has, one a line. Behind the path stands
// nothing, or " > " and a link, or " = " and the lines of the Text with " | "
// between them, or " : " and further lines of the Text of a unit file, before which
// comes what a unit of its kind must have.
func tree(text string) []api.File {
	var files []api.File
	for line := range strings.Lines(text) {
		line = strings.TrimSpace(line)
		if line == "" {
			continue
		}
		path, sign, rest := line, "", ""
		if fields := strings.SplitN(line, " ", 3); len(fields) == 3 {
			path, sign, rest = fields[0], fields[1], fields[2]
		}
		file := api.File{Path: path}
		switch sign {
		case ">":
			file.Link = rest
		case "=":
			file.Text = strings.ReplaceAll(rest, " | ", "\n")
		case ":":
			file.Text = soundText(path) + strings.ReplaceAll(rest, " | ", "\n") + "\n"
		}
		files = append(files, file)
	}
	return files
}

// soundText returns what a unit file at a path must have. Sockets have their ports
// in the tests themselves.
func soundText(path string) string {
	switch path[strings.LastIndexByte(path, '.'):] {
	case ".service":
		return "[Service]\nExecStart=/x\n"
	case ".timer":
		return "[Timer]\nOnBootSec=1\n"
	}
	return ""
}

// numbered returns so many files that have nothing to do with any test.
func numbered(n int) []api.File {
	files := make([]api.File, 0, n)
	for i := range n {
		files = append(files, api.File{Path: places[i%3] + "/number" + strconv.Itoa(i) + ".target"})
	}
	return files
}

// show tells the first files of a list.
func show(files []api.File) string {
	return fmt.Sprintf("%d files %.300q", len(files), files[:min(len(files), 20)])
}

// inAnyOrder calls check with the files in several orders.
func inAnyOrder(files []api.File, check func([]api.File) bool) {
	files = slices.Clone(files)
	for range 2 {
		for range max(1, len(files)) {
			if !check(files) {
				return
			}
			if len(files) > 0 {
				files = append(files[1:], files[0])
			}
		}
		slices.Reverse(files)
	}
}

// flat returns a value as a text in which nil and an empty list look the same.
func flat(x any) string { return fmt.Sprintf("%+q", x) }

func same(a, b api.Loaded) bool { return flat(a) == flat(b) }

// zero reports whether a loaded unit has neither a U nor any Wants or Requires.
func zero(l api.Loaded) bool {
	return reflect.DeepEqual(l.U, api.Unit{}) && len(l.Wants)+len(l.Requires) == 0
}

// checkOne checks what One returns.
func checkOne(t *testing.T, files []api.File, unit string, want api.Loaded) {
	t.Helper()
	inAnyOrder(files, func(files []api.File) bool {
		if got := load.One(files, unit); !same(got, want) || want.State != api.LLoaded && !zero(got) {
			t.Errorf("One(%s, %.300q) = %+v, want %+v", show(files), unit, got, want)
			return false
		}
		return true
	})
}

// namesOf returns the names of loaded units, with blanks between them.
func namesOf(all []api.Loaded) string {
	var list []string
	for _, l := range all {
		list = append(list, l.Name)
	}
	return strings.Join(list, " ")
}

// checkNames checks which units All returns. Units and names are given with
// blanks between them.
func checkNames(t *testing.T, text, units, want string) {
	t.Helper()
	inAnyOrder(tree(text), func(files []api.File) bool {
		if got := namesOf(load.All(files, strings.Fields(units))); got != want {
			t.Errorf("All(%s, %q) has %q, want %q", show(files), units, got, want)
			return false
		}
		return true
	})
}

// loaded returns the unit with a name out of those that All returns.
func loaded(t *testing.T, text, units, name string) api.Loaded {
	t.Helper()
	all := load.All(tree(text), strings.Fields(units))
	i := slices.IndexFunc(all, func(l api.Loaded) bool { return l.Name == name })
	if i < 0 {
		t.Fatalf("All(%q, %q) = %+v, without %q", text, units, all, name)
	}
	return all[i]
}

// relsOf returns the Rels of a unit as a text.
func relsOf(u api.Unit) string {
	words := []string{"", "requires", "wants", "requisite", "binds", "part", "conflicts", "before", "after", "failure"}
	var list []string
	for _, rel := range u.Rels {
		list = append(list, words[rel.Kind]+":"+rel.Name)
	}
	return strings.Join(list, " ")
}

func checkText(t *testing.T, what, got, want string) {
	t.Helper()
	if got != want {
		t.Errorf("%s: %q, want %q", what, got, want)
	}
}
