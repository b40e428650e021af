package enable_test

import (
	"fmt"
	"slices"
	"strconv"
	"strings"
	"testing"

	"matins/api"
	"matins/enable"
)

var places = []string{"etc", "run", "lib"}

// noNames are no unit names.
var noNames = []string{
	"", ".", "a", "a.", ".service", "@.service", "@i.service", "a@b@c.service", "a.mount", "a.Service", "a.service ", " a.service", "é.service", "a.service\n", "a.service\x00", "\xff.service",
	"a%i.service", "service", "null", "a.service.d", "etc/a.service", "/a.service", "t.target.wants/a.service", strings.Repeat("x", 53) + ".service",
}

// wrong are files each of which may be there neither alone nor with others.
var wrong = []api.File{
	{}, {Path: "a.service"}, {Path: "usr/a.service"}, {Path: "etc/a"}, {Path: "etc/a.service", Text: strings.Repeat("#", 20001)}, {Path: "etc/a.service", Text: "x", Link: "b.service"}, {Path: "etc/a.service", Link: "b.timer"},
	{Path: "etc/a.service.d/.conf"}, {Path: "etc/t.target.wants/a.service"}, {Path: "etc/t.target.wants/a@.service", Link: "a.service"},
}

// tree returns the files that a text has, one a line. Behind the path stands
// nothing, or " > " and a link, or " = " and the lines of the Text with " | "
// between them, or " : " and such lines of the section Install, before which
// comes what a unit of its kind must have.
func tree(text string) []api.File {
	var files []api.File
	for line := range strings.Lines(text) {
		line = strings.TrimSpace(line)
		if line == "" {
			continue
		}
		path, sign, rest := line, "", ""
		if fields := strings.SplitN(line, " ", 3); len(fields) == 3 {
			path, sign, rest = fields[0], fields[1], fields[2]
		}
		file := api.File{Path: path}
		switch sign {
		case ">":
			file.Link = rest
		case "=":
			file.Text = strings.ReplaceAll(rest, " | ", "\n")
		case ":":
			file.Text = soundText(path) + "[Install]\n" + strings.ReplaceAll(rest, " | ", "\n") + "\n"
		}
		files = append(files, file)
	}
	return files
}

// soundText returns what a unit file at a path must have.
func soundText(path string) string {
	switch path[strings.LastIndexByte(path, '.'):] {
	case ".service":
		return "[Service]\nExecStart=/x\n"
	case ".socket":
		return "[Socket]\nListenStream=80\n"
	case ".timer":
		return "[Timer]\nOnBootSec=1\n"
	}
	return ""
}

// numbered returns so many files that have nothing to do with any test.
func numbered(n int) []api.File {
	files := make([]api.File, 0, n)
	for i := range n {
		files = append(files, api.File{Path: places[i%3] + "/number" + strconv.Itoa(i) + ".target"})
	}
	return files
}

// show tells the first files of a list.
func show(files []api.File) string {
	return fmt.Sprintf("%d files %.300q", len(files), files[:min(len(files), 20)])
}

// inAnyOrder calls check with the files in several orders.
func inAnyOrder(files []api.File, check func([]api.File) bool) {
	files = slices.Clone(files)
	for range 2 {
		for range max(1, len(files)) {
			if !check(files) {
				return
			}
			if len(files) > 0 {
				files = append(files[1:], files[0])
			}
		}
		slices.Reverse(files)
	}
}

// changer is one of On, Off, Mask and Unmask.
type changer func([]api.File, string) ([]api.File, api.Errno)

// checkAdded checks that a call returns the files and behind them links, which
// are given as a text like that for tree.
func checkAdded(t *testing.T, call changer, files []api.File, unit, added string) {
	t.Helper()
	inAnyOrder(files, func(files []api.File) bool {
		got, err := call(files, unit)
		want := slices.Concat(files, tree(added))
		if err != api.OK || !slices.Equal(got, want) {
			t.Errorf("with %s and %q: %s, %d, want these behind: %s", show(files), unit, show(got[min(len(got), len(files)):]), err, show(tree(added)))
			return false
		}
		return true
	})
}

// checkRemoved checks that a call returns the files without those that have the
// given paths.
func checkRemoved(t *testing.T, call changer, files []api.File, unit string, paths ...string) {
	t.Helper()
	inAnyOrder(files, func(files []api.File) bool {
		got, err := call(files, unit)
		var want []api.File
		for _, file := range files {
			if !slices.Contains(paths, file.Path) {
				want = append(want, file)
			}
		}
		if err != api.OK || !slices.Equal(got, want) || len(want)+len(paths) != len(files) {
			t.Errorf("with %s and %q: %s, %d, want %s", show(files), unit, show(got), err, show(want))
			return false
		}
		return true
	})
}

// checkRefused checks that a call returns an error, and no files.
func checkRefused(t *testing.T, call changer, files []api.File, unit string, want api.Errno) {
	t.Helper()
	inAnyOrder(files, func(files []api.File) bool {
		if got, err := call(files, unit); len(got) != 0 || err != want {
			t.Errorf("with %s and %.300q: %s, %d, want %d", show(files), unit, show(got), err, want)
			return false
		}
		return true
	})
}

func checkIs(t *testing.T, files []api.File, unit, want string) {
	t.Helper()
	inAnyOrder(files, func(files []api.File) bool {
		if got := enable.Is(files, unit); got != want {
			t.Errorf("Is(%s, %.300q) = %q, want %q", show(files), unit, got, want)
			return false
		}
		return true
	})
}
