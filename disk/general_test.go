package disk_test

import (
	"slices"
	"strconv"
	"strings"
	"sync"
	"testing"

	"matins/api"
	"matins/disk"
)

// Each function has the face that the chapter gives it.
var (
	_ func() []string                                     = disk.Places
	_ func([]api.File) bool                               = disk.May
	_ func([]api.File, string) (api.Found, api.Errno)     = disk.Find
	_ func([]api.File, string) (wants, requires []string) = disk.Links
)

// rich has files for each of the answers.
const rich = `
	etc/b.service > a.service
	lib/a.service
	lib/a.service.d/2.conf
	etc/a.service.d/2.conf
	run/a.service.d/1.conf
	lib/t@.service
	lib/t@.service.d/1.conf
	lib/t@.service.d/2.conf
	etc/t@i.service.d/2.conf
	etc/m.service > null
	etc/n.service > none.service
	lib/a.service.wants/d.service > d.service
	etc/a.service.wants/d.service > d.service
	etc/a.service.wants/c.service > c.service
	run/a.service.requires/f.service > f.service
	etc/a.service.requires/e.service > e.service`

// checkRich checks all answers for the files of rich.
func checkRich(t *testing.T, files []api.File) {
	t.Helper()
	if got := disk.Places(); !slices.Equal(got, places) {
		t.Errorf("Places() = %q", got)
	}
	if !disk.May(files) {
		t.Errorf("May is false")
	}
	for _, x := range []struct {
		unit string
		want api.Found
		err  api.Errno
	}{
		{"b.service", api.Found{Name: "a.service", Path: "lib/a.service", Drops: []string{"run/a.service.d/1.conf", "etc/a.service.d/2.conf"}}, api.OK},
		{"t@i.service", api.Found{Name: "t@i.service", Path: "lib/t@.service", Drops: []string{"lib/t@.service.d/1.conf", "etc/t@i.service.d/2.conf"}}, api.OK},
		{"m.service", api.Found{Name: "m.service", Path: "etc/m.service", Masked: true}, api.OK},
		{"n.service", api.Found{}, api.ErrLink},
		{"none.service", api.Found{}, api.ErrNone},
		{"none", api.Found{}, api.ErrName},
	} {
		if got, err := disk.Find(files, x.unit); !same(got, x.want) || err != x.err {
			t.Errorf("Find(%q) = %+v, %d, want %+v, %d", x.unit, got, err, x.want, x.err)
		}
	}
	wants, requires := disk.Links(files, "a.service")
	if !slices.Equal(wants, []string{"c.service", "d.service"}) || !slices.Equal(requires, []string{"e.service", "f.service"}) {
		t.Errorf("Links = %q, %q", wants, requires)
	}
}

// P0.3: no call changes or keeps anything of its arguments, not even behind their
// ends.
func TestArgumentsAreLeft(t *testing.T) {
	all := append(tree(rich), tree("etc/z.service\nno path\nlib/a.service.d/0.conf\nlib/a.service.wants/0.service > 0.service")...)
	before := slices.Clone(all)
	files := all[:len(all)-4]
	checkRich(t, files)
	found, _ := disk.Find(files, "b.service")
	drops := slices.Clone(found.Drops)
	wants, requires := disk.Links(files, "a.service")
	disk.May(all)
	disk.Find(all, "b.service")
	disk.Links(all, "a.service")
	if !slices.Equal(all, before) {
		t.Errorf("the files are now %q", all)
	}
	for i := range all {
		all[i] = api.File{Path: "spoilt", Text: "spoilt", Link: "spoilt"}
	}
	if found.Name != "a.service" || !slices.Equal(found.Drops, drops) || len(wants) != 2 || wants[0] != "c.service" || len(requires) != 2 || requires[1] != "f.service" {
		t.Errorf("the answers are now %+v, %q, %q", found, wants, requires)
	}
	checkRich(t, before[:len(files)])
}

// spoil writes into a list, up to the end of its spare capacity.
func spoil(l []string) {
	l = l[:cap(l)]
	for i := range l {
		l[i] = "spoilt"
	}
}

// P0.3: what a caller writes into one list changes no other one.
func TestListsAreNew(t *testing.T) {
	files := tree(rich)
	kept := disk.Places()
	spoil(disk.Places())
	if !slices.Equal(kept, places) {
		t.Errorf("the places are now %q", kept)
	}
	checkRich(t, files)
	for _, unit := range []string{"a.service", "t@i.service", "m.service"} {
		first, _ := disk.Find(files, unit)
		second, _ := disk.Find(files, unit)
		want := slices.Clone(second.Drops)
		spoil(first.Drops)
		if !slices.Equal(second.Drops, want) {
			t.Errorf("the drop-in files are now %q, want %q", second.Drops, want)
		}
		checkRich(t, files)
	}
	for i := range 2 {
		wants, requires := disk.Links(files, "a.service")
		lists := [][]string{wants, requires}
		other := slices.Clone(lists[1-i])
		spoil(lists[i])
		if !slices.Equal(lists[1-i], other) {
			t.Errorf("the list is now %q, want %q", lists[1-i], other)
		}
		checkRich(t, files)
	}
}

// P0.4: nil and an empty list are the same.
func TestNilAndEmpty(t *testing.T) {
	for _, files := range [][]api.File{nil, {}, tree(rich)[:0]} {
		checkMay(t, files, true)
		checkFind(t, files, "a.service", api.Found{}, api.ErrNone)
		checkFind(t, files, "a", api.Found{}, api.ErrName)
		checkFind(t, files, "", api.Found{}, api.ErrName)
		checkLinks(t, files, "a.service", "", "")
		checkLinks(t, files, "", "", "")
	}
}

// P0.5: a call answers the same whatever was called before it or is called beside
// it.
func TestNothingIsKept(t *testing.T) {
	files := tree(rich)
	wrong := append(tree(rich), api.File{})
	var group sync.WaitGroup
	for range 8 {
		group.Go(func() {
			for range 50 {
				checkRich(t, files)
				checkMay(t, wrong, false)
				if _, err := disk.Find(wrong, "a.service"); err != api.ErrForm {
					t.Errorf("error %d", err)
				}
				if _, err := disk.Find(nil, "a.service"); err != api.ErrNone {
					t.Errorf("error %d", err)
				}
			}
		})
	}
	group.Wait()
}

// P0.7: names and paths are compared byte by byte.
func TestBytesAreCompared(t *testing.T) {
	names := []string{"a.service", "A.service", "a-.service", `a\x2d.service`, `\x61.service`, "a_.service", "a:.service", "a..service"}
	var text string
	for i, name := range names {
		text += places[i%3] + "/" + name + "\nlib/" + name + ".d/x.conf\nlib/" + name + ".wants/" + name + " > " + name + "\n"
	}
	for i, name := range names {
		checkFound(t, text, name, name, places[i%3]+"/"+name, "lib/"+name+".d/x.conf")
		checkLinks(t, tree(text), name, name, "")
	}
}

// P0.1: every call ends, soon enough, also with long arguments and any bytes.
func TestLongArguments(t *testing.T) {
	const many = 1 << 20
	for _, piece := range []string{"x", "/", ".", "@", "\x00", "\xff", "etc/", ".service", ".d/", "é"} {
		long := strings.Repeat(piece, many)
		for _, file := range []api.File{
			{Path: long}, {Path: "etc/" + long}, {Path: "etc/" + long + ".service"}, {Path: "etc/a.service", Link: long}, {Path: "etc/a.service", Text: long}, {Path: "etc/a.service.d/" + long}, {Path: "etc/a.service.d/" + long + ".conf"},
			{Path: "etc/" + long + ".service.d/x.conf"}, {Path: "etc/a.service.wants/" + long + ".service", Link: "a.service"}, {Path: "etc/" + long + ".service.requires/a.service", Link: "a.service"}, {Path: "etc/a.service.wants/a.service", Link: long},
		} {
			if disk.May([]api.File{file}) {
				t.Errorf("May of a file with many %q", piece)
			}
		}
		checkFind(t, numbered(2), long, api.Found{}, api.ErrName)
		checkFind(t, numbered(2), long+".service", api.Found{}, api.ErrName)
		checkLinks(t, numbered(2), long, "", "")
	}
	for _, files := range [][]api.File{make([]api.File, many), numbered(many), slices.Repeat(tree("etc/a.service"), many)} {
		checkMay(t, files, false)
		if found, err := disk.Find(files, "a.service"); !same(found, api.Found{}) || err != api.ErrForm {
			t.Errorf("Find = %+v, %d", found, err)
		}
		if wants, requires := disk.Links(files, "a.service"); len(wants)+len(requires) != 0 {
			t.Errorf("Links = %q, %q", wants, requires)
		}
	}
}

// As many files as there may be of one name.
func TestManyOfOneName(t *testing.T) {
	var drops, others []string
	files := tree("etc/t@.service")
	for i := range 119 {
		x := strconv.Itoa(1000 + i)
		files = append(files, api.File{Path: places[i%3] + "/t@.service.d/" + x + ".conf"})
		drops = append(drops, files[i+1].Path)
	}
	for _, unit := range []string{"t@.service", "t@i.service"} {
		checkFind(t, files, unit, api.Found{Name: unit, Path: "etc/t@.service", Drops: drops}, api.OK)
	}
	files = nil
	for i := range 120 {
		other := "a" + strconv.Itoa(1000+i) + ".service"
		files = append(files, api.File{Path: places[i%3] + "/t@.service.requires/" + other, Link: "a.service"})
		others = append(others, other)
	}
	checkLinks(t, files, "t@.service", "", strings.Join(others, " "))
}
