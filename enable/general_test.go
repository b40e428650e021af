package enable_test

import (
	"slices"
	"strings"
	"sync"
	"testing"

	"matins/api"
	"matins/enable"
)

// Each function has the face that the chapter gives it.
var (
	_ func([]api.File, string) (u api.Unit, path string, fault api.Fault) = enable.Read
	_ func([]api.File, string) ([]api.File, api.Errno)                    = enable.On
	_ func([]api.File, string) ([]api.File, api.Errno)                    = enable.Off
	_ func([]api.File, string) ([]api.File, api.Errno)                    = enable.Mask
	_ func([]api.File, string) ([]api.File, api.Errno)                    = enable.Unmask
	_ func([]api.File, string) string                                     = enable.Is
)

// rich has files for many of the answers.
const rich = `
	etc/m.service > null
	lib/a.service : WantedBy=t.target | Alias=b.service | Also=c.socket
	lib/a.service.d/x.conf = [Unit] | Description=%p | [Install] | RequiredBy=r.target
	etc/t.target.wants/e.target > e.target
	lib/c.socket : WantedBy=s.target
	etc/l.target > e.target
	lib/e.target
	run/f.target = x
	lib/s@.target : Also=e.target`

// checkRich checks answers for the files of rich.
func checkRich(t *testing.T, files []api.File) {
	t.Helper()
	u, path, fault := enable.Read(files, "a.service")
	if u.Desc != "a" || !slices.Equal(u.WantedBy, []string{"t.target"}) || !slices.Equal(u.RequiredBy, []string{"r.target"}) || path != "lib/a.service" || fault != (api.Fault{}) {
		t.Errorf("Read = %+v, %q, %+v", u, path, fault)
	}
	for _, x := range []struct {
		name  string
		call  changer
		unit  string
		err   api.Errno
		added string
		gone  int // the index of the file that is removed, or -1
	}{
		{"On", enable.On, "a.service", api.OK, "etc/b.service > a.service\netc/r.target.requires/a.service > a.service\netc/s.target.wants/c.socket > c.socket\netc/t.target.wants/a.service > a.service", -1},
		{"On", enable.On, "s@i.target", api.ErrNone, "", -1},
		{"Off", enable.Off, "l.target", api.ErrNone, "", -1},
		{"Mask", enable.Mask, "e.target", api.OK, "etc/e.target > null", -1},
		{"Mask", enable.Mask, "m.service", api.ErrTwice, "", -1},
		{"Unmask", enable.Unmask, "m.service", api.OK, "", 0},
		{"Unmask", enable.Unmask, "e.target", api.ErrNone, "", -1},
	} {
		var want []api.File
		if x.err == api.OK {
			want = slices.Concat(files, tree(x.added))
			if x.gone >= 0 {
				want = slices.Delete(want, x.gone, x.gone+1)
			}
		}
		if got, err := x.call(files, x.unit); err != x.err || !slices.Equal(got, want) {
			t.Errorf("%s of %q = %s, %d, want %s, %d", x.name, x.unit, show(got), err, show(want), x.err)
		}
	}
	for unit, want := range map[string]string{"m.service": "masked", "a.service": "disabled", "b.service": "missing", "l.target": "alias", "e.target": "enabled", "f.target": "bad", "s@i.target": "disabled", "x": "wrong"} {
		if got := enable.Is(files, unit); got != want {
			t.Errorf("Is(%q) = %q, want %q", unit, got, want)
		}
	}
}

// callAll calls each function, and returns all lists of files that come.
func callAll(files []api.File, units ...string) [][]api.File {
	var lists [][]api.File
	for _, unit := range units {
		enable.Read(files, unit)
		enable.Is(files, unit)
		for _, call := range append(changers, enable.On) {
			list, _ := call(files, unit)
			lists = append(lists, list)
		}
	}
	return lists
}

// P0.3: no call changes or keeps anything of its arguments, not even behind their
// ends.
func TestArgumentsAreLeft(t *testing.T) {
	all := append(tree(rich), tree("etc/z.service\nno path\nlib/a.service.d/0.conf = x\netc/r.target.wants/a.service > a.service")...)
	before := slices.Clone(all)
	n := len(all) - 4
	units := []string{"a.service", "m.service", "e.target", "l.target", "x"}
	lists := callAll(all[:n], units...)
	callAll(all, units...)
	checkRich(t, all[:n])
	if !slices.Equal(all, before) {
		t.Errorf("the files are now %s", show(all))
	}
	copies := make([][]api.File, len(lists))
	for i, list := range lists {
		copies[i] = slices.Clone(list)
	}
	spoil(all)
	for i, list := range lists {
		if !slices.Equal(list, copies[i]) {
			t.Errorf("the list is now %s, want %s", show(list), show(copies[i]))
		}
	}
	checkRich(t, before[:n])
}

// spoil writes into a list, up to the end of its spare capacity.
func spoil(files []api.File) {
	files = files[:cap(files)]
	for i := range files {
		files[i] = api.File{Path: "spoilt", Text: "spoilt", Link: "spoilt"}
	}
}

// P0.3: what a caller writes into one list changes neither another one nor the
// files, nor what any call answers.
func TestListsAreNew(t *testing.T) {
	files := tree(rich)
	before := slices.Clone(files)
	units := []string{"a.service", "m.service", "e.target"}
	lists, others := callAll(files, units...), callAll(files, units...)
	want := make([][]api.File, len(others))
	for i, list := range others {
		want[i] = slices.Clone(list)
	}
	for _, list := range lists {
		spoil(list)
	}
	for i, list := range others {
		if !slices.Equal(list, want[i]) {
			t.Errorf("the list is now %s, want %s", show(list), show(want[i]))
		}
	}
	if !slices.Equal(files, before) {
		t.Errorf("the files are now %s", show(files))
	}
	checkRich(t, files)
}

// P0.4: nil and an empty list are the same.
func TestNilAndEmpty(t *testing.T) {
	for _, files := range [][]api.File{nil, {}, tree(rich)[:0]} {
		checkFault(t, files, "a.service", api.Fault{Code: api.ErrNone}, "")
		checkRefused(t, enable.On, files, "a.service", api.ErrNone)
		checkRefused(t, enable.On, files, "a", api.ErrName)
		checkRefused(t, enable.Off, files, "a.service", api.ErrNone)
		checkAdded(t, enable.Mask, files, "a.service", "etc/a.service > null")
		checkRefused(t, enable.Unmask, files, "a.service", api.ErrNone)
		checkIs(t, files, "a.service", "missing")
		checkIs(t, files, "", "wrong")
	}
}

// P0.5: a call answers the same whatever was called before it or is called beside
// it.
func TestNothingIsKept(t *testing.T) {
	files, other := tree(rich), append(tree("etc/r.target.wants/a.service > a.service"), tree("lib/a.service = x\nlib/e.target : Alias=y.target")...)
	var group sync.WaitGroup
	for range 8 {
		group.Go(func() {
			for range 20 {
				checkRich(t, files)
				callAll(other, "a.service", "e.target", "m.service")
				callAll(append(other, api.File{}), "a.service")
			}
		})
	}
	group.Wait()
}

// P0.7: names and paths are compared byte by byte.
func TestBytesAreCompared(t *testing.T) {
	names := []string{"a.target", "A.target", "a-.target", `a\x2d.target`, `\x61.target`, "a_.target", "a:.target", "a..target"}
	var text string
	for _, name := range names {
		text += "lib/" + name + " : WantedBy=" + name + "\netc/" + name + ".requires/" + name + " > " + name + "\n"
	}
	for _, name := range names {
		checkOn(t, text, name, "etc/"+name+".wants/"+name+" > "+name)
		checkRemoved(t, enable.Off, tree(text), name, "etc/"+name+".requires/"+name)
		checkAdded(t, enable.Mask, tree(text+"etc/b.target > null"), name, "etc/"+name+" > null")
		checkIs(t, tree(text), name, "enabled")
	}
}

// P0.1: every call ends, soon enough, also with long arguments and any bytes.
func TestLongArguments(t *testing.T) {
	const many = 1 << 20
	for _, piece := range []string{"x", "/", ".", "@", "\x00", "\xff", "etc/", ".service", "%", "é"} {
		long := strings.Repeat(piece, many)
		files := tree(rich)
		checkFault(t, files[:1], long, api.Fault{Code: api.ErrName}, "")
		checkIs(t, files[:1], long, "wrong")
		for _, call := range append(changers, enable.On) {
			checkRefused(t, call, files[:1], long, api.ErrName)
			checkRefused(t, call, []api.File{{Path: long}}, "a.service", api.ErrForm)
			checkRefused(t, call, []api.File{{Path: "etc/a.service", Text: long}}, "a.service", api.ErrForm)
			checkRefused(t, call, []api.File{{Path: "etc/a.service", Link: long}}, "a.service", api.ErrForm)
		}
	}
	for _, files := range [][]api.File{make([]api.File, many), numbered(many), slices.Repeat(tree("etc/a.service"), many)} {
		if u, path, fault := enable.Read(files, "a.service"); u.Name != "" || path != "" || fault != (api.Fault{Code: api.ErrForm}) {
			t.Errorf("Read = %+v, %q, %+v", u, path, fault)
		}
		for _, call := range append(changers, enable.On) {
			if list, err := call(files, "a.service"); len(list) != 0 || err != api.ErrForm {
				t.Errorf("%s, %d", show(list), err)
			}
		}
		if is := enable.Is(files, "a.service"); is != "wrong" {
			t.Errorf("Is = %q", is)
		}
	}
}

// As many files as there may be, each as long as it may be, of units each of which
// names others in its Also.
func TestMuchToRead(t *testing.T) {
	var files []api.File
	names := several(120)
	for i, file := range numbered(120) {
		file.Text = "[Install]\nAlso=" + names[(i+1)%120] + " " + names[(i*7)%120] + " " + names[(i*11+5)%120] + "\n"
		file.Text += strings.Repeat("#", 19999-len(file.Text)) + "\n"
		files = append(files, file)
	}
	if list, err := enable.On(files, names[0]); len(list) != 0 || err != api.ErrNone {
		t.Errorf("%s, %d", show(list), err)
	}
	// One of them requests links.
	const link = "[Install]\nWantedBy=t.target u.target\n"
	files[77].Text = link + files[77].Text[:20000-len(link)]
	if list, err := enable.On(files, names[0]); len(list) != 0 || err != api.ErrFull {
		t.Errorf("%s, %d", show(list), err)
	}
	files = slices.Delete(files, 100, 102)
	if list, err := enable.On(files, names[0]); len(list) != 120 || err != api.OK {
		t.Errorf("%s, %d", show(list), err)
	}
}
