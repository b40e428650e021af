package enable_test

import (
	"slices"
	"strings"
	"testing"

	"matins/api"
	"matins/enable"
	"matins/unit"
)

// checkRead checks that Read returns a unit and a path without a fault.
func checkRead(t *testing.T, files []api.File, name string, want api.Unit, wantPath string) {
	t.Helper()
	inAnyOrder(files, func(files []api.File) bool {
		u, path, fault := enable.Read(files, name)
		if !unit.Same(u, want) || path != wantPath || fault != (api.Fault{}) {
			t.Errorf("Read(%s, %q) = %+v, %q, %+v, want %+v, %q", show(files), name, u, path, fault, want, wantPath)
			return false
		}
		return true
	})
}

// checkFault checks that Read returns a fault and a path, and no unit.
func checkFault(t *testing.T, files []api.File, name string, want api.Fault, wantPath string) {
	t.Helper()
	inAnyOrder(files, func(files []api.File) bool {
		u, path, fault := enable.Read(files, name)
		if !unit.Same(u, api.Unit{}) || path != wantPath || fault != want {
			t.Errorf("Read(%s, %.300q) = %+v, %q, %+v, want %q, %+v", show(files), name, u, path, fault, wantPath, want)
			return false
		}
		return true
	})
}

// target returns a target with a description.
func target(name, desc string) api.Unit {
	u := unit.New(name)
	u.Desc = desc
	return u
}

// P13.1: a unit without a fault.

func TestReadOneFile(t *testing.T) {
	for _, place := range places {
		checkRead(t, tree(place+"/a.target = [Unit] | Description=x"), "a.target", target("a.target", "x"), place+"/a.target")
		checkRead(t, tree(place+"/a.target"), "a.target", unit.New("a.target"), place+"/a.target")
	}
	service := unit.New("a.service")
	service.Start = []api.Exec{{Words: []string{"/x"}}}
	service.WantedBy, service.RequiredBy = []string{"b.target", "c.target"}, []string{"d.target"}
	service.Alias, service.Also, service.Instance = []string{"e.service"}, []string{"f.socket"}, "i"
	checkRead(t, tree("lib/a.service : WantedBy=b.target | RequiredBy=d.target | Alias=e.service | Also=f.socket | DefaultInstance=i | WantedBy=c.target"), "a.service", service, "lib/a.service")
	// The first directory has it, whatever the others have.
	checkRead(t, tree("etc/a.target = [Unit] | Description=x\nrun/a.target = wrong\nlib/a.target > null"), "a.target", target("a.target", "x"), "etc/a.target")
}

// Specifiers stand for parts of the name that was found.
func TestReadLinksAndInstances(t *testing.T) {
	const text = `
		etc/l.target > a.target
		lib/a.target = [Unit] | Description=%n
		lib/t@.target = [Unit] | Description=%p %i
		lib/t@own.target = [Unit] | Description=own %i
		etc/u@.target > t@.target
		etc/m.target > u@k.target
		etc/l.target.d/x.conf = wrong
		etc/u@.target.d/x.conf = wrong`
	checkRead(t, tree(text), "a.target", target("a.target", "a.target"), "lib/a.target")
	checkRead(t, tree(text), "l.target", target("a.target", "a.target"), "lib/a.target")
	checkRead(t, tree(text), "t@i.target", target("t@i.target", "t i"), "lib/t@.target")
	checkRead(t, tree(text), "u@i.target", target("t@i.target", "t i"), "lib/t@.target")
	checkRead(t, tree(text), "u@own.target", target("t@own.target", "own own"), "lib/t@own.target")
	checkRead(t, tree(text), "m.target", target("t@k.target", "t k"), "lib/t@.target")
}

// The unit file comes first, then the drop-in files by their names.
func TestReadDropIns(t *testing.T) {
	want := target("a.target", "three")
	want.WantedBy = []string{"0.target", "1.target", "2.target", "3.target"}
	checkRead(t, tree(`
		run/a.target = [Unit] | Description=none | [Install] | WantedBy=0.target
		lib/a.target.d/1.conf = [Unit] | Description=one | [Install] | WantedBy=1.target
		run/a.target.d/2.conf = [Install] | WantedBy=2.target | [Unit] | Description=two
		etc/a.target.d/3.conf = [Unit] | Description=three | [Install] | WantedBy=3.target`), "a.target", want, "run/a.target")
	want.WantedBy = []string{"2.target", "3.target"}
	checkRead(t, tree(`
		run/a.target = [Unit] | Description=none | [Install] | WantedBy=0.target
		etc/a.target.d/1.conf = [Unit] | Description=one | [Install] | WantedBy=1.target
		run/a.target.d/2.conf = [Install] | WantedBy= | WantedBy=2.target | [Unit] | Description=two
		lib/a.target.d/3.conf = [Unit] | Description=three | [Install] | WantedBy=3.target`), "a.target", want, "run/a.target")
	// By X and not by whole names: a comes before a-b.
	checkRead(t, tree("lib/a.target\nlib/a.target.d/a.conf = [Unit] | Description=a\nlib/a.target.d/a-b.conf = [Unit] | Description=a-b"), "a.target", target("a.target", "a-b"), "lib/a.target")
	// Those of an instance and of its template, by name.
	want = target("t@i.target", "three i")
	want.WantedBy = []string{"0.target", "1.target", "2.target", "3.target"}
	checkRead(t, tree(`
		lib/t@.target = [Install] | WantedBy=0.target
		lib/t@i.target.d/1.conf = [Install] | WantedBy=1.target | [Unit] | Description=one
		etc/t@.target.d/2.conf = [Install] | WantedBy=2.target | [Unit] | Description=two
		etc/t@.target.d/1.conf = wrong
		lib/t@i.target.d/3.conf = [Install] | WantedBy=3.target | [Unit] | Description=three %i
		etc/t@j.target.d/4.conf = wrong`), "t@i.target", want, "lib/t@.target")
}

// What a drop-in file replaces is not decoded, so that it has no fault.
func TestReadMergesAheadOfDecoding(t *testing.T) {
	service := unit.New("a.service")
	service.Type, service.Start = api.TNotify, []api.Exec{{Words: []string{"/b"}}}
	checkRead(t, tree(`
		lib/a.service = [Service] | Type=odd | ExecStart='/a | ExecStart=/c | [Unit] | Wants=no name | Description=%x
		etc/a.service.d/x.conf = [Service] | Type=notify | ExecStart= | [Unit] | Wants= | Description=
		etc/a.service.d/y.conf = [Service] | ExecStart=/b`), "a.service", service, "lib/a.service")
	// A drop-in file has what the unit file lacks.
	service.Type = api.TSimple
	checkRead(t, tree("run/a.service\nrun/a.service.d/x.conf = [Service] | ExecStart=/b"), "a.service", service, "run/a.service")
	// More lines than a list has elements, but for the lines that are replaced.
	lines := strings.Repeat(" | WantedBy=a1.target a2.target a3.target a4.target a5.target", 4)
	checkRead(t, tree("lib/a.target = [Install]"+lines+"\nlib/a.target.d/x.conf = [Install] | WantedBy="), "a.target", unit.New("a.target"), "lib/a.target")
}

// P13.1: what disk.Find refuses.

func TestReadInWrongFiles(t *testing.T) {
	for _, file := range wrong {
		for _, name := range []string{"a.service", "good.target", "none.target", "null.target", "link.target", "bad.target", "x"} {
			files := append(tree("etc/good.target\nlib/null.target > null\nlib/link.target > none.target\nlib/bad.target = x"), file)
			checkFault(t, files, name, api.Fault{Code: api.ErrForm}, "")
		}
	}
	checkFault(t, numbered(121), "number0.target", api.Fault{Code: api.ErrForm}, "")
	checkRead(t, numbered(120), "number0.target", unit.New("number0.target"), "etc/number0.target")
	checkFault(t, tree("etc/a.target\nlib/b.target\netc/a.target"), "b.target", api.Fault{Code: api.ErrForm}, "")
}

func TestReadWithoutFile(t *testing.T) {
	for _, name := range noNames {
		checkFault(t, tree("lib/a.service = x\nlib/t.target.wants/a.service > a.service"), name, api.Fault{Code: api.ErrName}, "")
		checkFault(t, nil, name, api.Fault{Code: api.ErrName}, "")
	}
	const text = "lib/a.target\nlib/t@.target\nlib/b.target.d/x.conf = [Unit]\netc/a.target.wants/c.target > c.target\nrun/l.target > b.target\nrun/r.target > r.target"
	for _, name := range []string{"b.target", "c.target", "a@.target", "a@i.target", "a.timer", "t.target", "t@.timer"} {
		checkFault(t, tree(text), name, api.Fault{Code: api.ErrNone}, "")
		checkFault(t, nil, name, api.Fault{Code: api.ErrNone}, "")
	}
	checkFault(t, tree(text), "l.target", api.Fault{Code: api.ErrLink}, "")
	checkFault(t, tree(text), "r.target", api.Fault{Code: api.ErrLink}, "")
}

func TestReadMasked(t *testing.T) {
	masked := api.Fault{Code: api.ErrMasked}
	for _, place := range places {
		checkFault(t, tree(place+"/a.target > null"), "a.target", masked, "")
		checkFault(t, tree(place+"/a@.target > null"), "a@.target", masked, "")
		checkFault(t, tree(place+"/a@.target > null"), "a@i.target", masked, "")
		checkFault(t, tree(place+"/a.target > b.target\nlib/b.target > null\nlib/b.target.d/x.conf = wrong"), "a.target", masked, "")
	}
	checkFault(t, tree("etc/a.target > null\nrun/a.target\nlib/a.target = wrong\netc/a.target.d/x.conf = wrong"), "a.target", masked, "")
	checkRead(t, tree("etc/a.target\nrun/a.target > null"), "a.target", unit.New("a.target"), "etc/a.target")
}

// P13.1: what lines.Parse refuses.

func TestReadFileThatDoesNotParse(t *testing.T) {
	for _, x := range []struct {
		text string
		want api.Fault
	}{
		{"x", api.Fault{Code: api.ErrLine, At: 1}},
		{"[Unit] | # no | Description=x | x", api.Fault{Code: api.ErrLine, At: 4}},
		{"Description=x", api.Fault{Code: api.ErrSection, At: 1}},
		{"[Unit", api.Fault{Code: api.ErrSection, At: 1}},
		{"[Unit] | Description=\x01", api.Fault{Code: api.ErrForm, At: 2}},
		{"[Unit] | Description=" + strings.Repeat("x", 400), api.Fault{Code: api.ErrLong, At: 2}},
	} {
		checkFault(t, tree("run/a.target = "+x.text), "a.target", x.want, "run/a.target")
		checkFault(t, tree("run/a.target\netc/a.target.d/x.conf = "+x.text), "a.target", x.want, "etc/a.target.d/x.conf")
		checkFault(t, tree("run/b.target > a.target\nlib/a.target = "+x.text), "b.target", x.want, "lib/a.target")
		checkFault(t, tree("lib/a@.target = "+x.text), "a@i.target", x.want, "lib/a@.target")
		checkFault(t, tree("lib/a@.target = "+x.text), "a@.target", x.want, "lib/a@.target")
		checkFault(t, tree("lib/a@i.target\nlib/a@.target.d/x.conf = "+x.text), "a@i.target", x.want, "lib/a@.target.d/x.conf")
		checkFault(t, tree("lib/a@.target\nlib/a@.target.d/x.conf = "+x.text), "a@.target", x.want, "lib/a@.target.d/x.conf")
	}
}

// Each file begins with a first line, and without a section.
func TestReadEachFileAlone(t *testing.T) {
	checkFault(t, tree("lib/a.target = [Unit] | Description=x\nlib/a.target.d/x.conf = Description=y"), "a.target", api.Fault{Code: api.ErrSection, At: 1}, "lib/a.target.d/x.conf")
	checkFault(t, tree("lib/a.target = [Unit] | Description=x \\\nlib/a.target.d/x.conf = x"), "a.target", api.Fault{Code: api.ErrLine, At: 1}, "lib/a.target.d/x.conf")
	long := strings.Repeat("#", 15000)
	checkRead(t, []api.File{{Path: "lib/a.target", Text: long}, {Path: "lib/a.target.d/x.conf", Text: long}}, "a.target", unit.New("a.target"), "lib/a.target")
}

func TestReadFirstOfSeveralFaults(t *testing.T) {
	const (
		file  = "lib/a.target = x\n"
		first = "lib/a.target.d/1.conf = [Unit] | y\n"
		other = "etc/a.target.d/2.conf = [Unit] | # | z\n"
	)
	line := func(at int) api.Fault { return api.Fault{Code: api.ErrLine, At: at} }
	checkFault(t, tree(file+first+other), "a.target", line(1), "lib/a.target")
	checkFault(t, tree("lib/a.target\n"+first+other), "a.target", line(2), "lib/a.target.d/1.conf")
	checkFault(t, tree("lib/a.target\nlib/a.target.d/1.conf\n"+other), "a.target", line(3), "etc/a.target.d/2.conf")
	// All files are parsed ahead of what only unit.Make sees.
	checkFault(t, tree("lib/a.target = [Unit] | Odd=1\nlib/a.target.d/1.conf = [Odd] | Odd=1\n"+other), "a.target", line(3), "etc/a.target.d/2.conf")
	checkFault(t, tree("lib/a@.target\nlib/a@.target.d/1.conf = x"), "a@.target", line(1), "lib/a@.target.d/1.conf")
}

// P13.1: what unit.Make refuses, with the path of the unit file wherever the line
// is.

func TestReadUnitThatDoesNotDecode(t *testing.T) {
	for _, x := range []struct {
		text string
		want api.Fault
	}{
		{"[Unit] | Odd=1", api.Fault{Code: api.ErrKey, At: 2}},
		{"[Unit] | # no | [Odd] | Odd=1", api.Fault{Code: api.ErrSection, At: 4}},
		{"[Unit] | Description=%", api.Fault{Code: api.ErrSpec, At: 2}},
		{"[Install] | WantedBy=x", api.Fault{Code: api.ErrValue, At: 2}},
		{"[Install] | WantedBy=" + strings.Join(several(17), " "), api.Fault{Code: api.ErrLong, At: 2}},
	} {
		checkFault(t, tree("run/a.target = "+x.text), "a.target", x.want, "run/a.target")
		checkFault(t, tree("run/a.target = [Unit] | Description=x\netc/a.target.d/x.conf = "+x.text), "a.target", x.want, "run/a.target")
		checkFault(t, tree("run/b.target > a.target\nlib/a.target = "+x.text), "b.target", x.want, "lib/a.target")
		checkFault(t, tree("lib/a@.target\netc/a@i.target.d/x.conf = "+x.text), "a@i.target", x.want, "lib/a@.target")
	}
	// The first line with a fault, in the order of the files.
	checkFault(t, tree("lib/a.target\nlib/a.target.d/1.conf = [Unit] | # | Odd=1\netc/a.target.d/2.conf = [Unit] | Description=%"), "a.target", api.Fault{Code: api.ErrKey, At: 3}, "lib/a.target")
	// Faults of the unit as a whole.
	checkFault(t, tree("lib/a.service"), "a.service", api.Fault{Code: api.ErrNone}, "lib/a.service")
	checkFault(t, tree("etc/l.socket > a.socket\nlib/a.socket"), "l.socket", api.Fault{Code: api.ErrNone}, "lib/a.socket")
	checkFault(t, tree("lib/a.service : WantedBy=t.target\nlib/a.service.d/x.conf = [Service] | ExecStart=/y"), "a.service", api.Fault{Code: api.ErrTwice}, "lib/a.service")
}

// several returns so many names of targets.
func several(n int) []string {
	var names []string
	for _, file := range numbered(n) {
		names = append(names, file.Path[len("etc/"):])
	}
	return names
}

func TestReadTemplate(t *testing.T) {
	none := api.Fault{Code: api.ErrName}
	checkFault(t, tree("run/a@.target"), "a@.target", none, "run/a@.target")
	checkFault(t, tree("run/a@.target = [Unit] | Odd=1"), "a@.target", none, "run/a@.target")
	checkFault(t, tree("etc/b@.target > a@.target\nrun/a@.target"), "b@.target", none, "run/a@.target")
	checkRead(t, tree("run/a@.target"), "a@i.target", unit.New("a@i.target"), "run/a@.target")
	// The line's fault depends on the instance.
	text := tree("lib/a@.target : WantedBy=%I.target")
	want := unit.New("a@b.target")
	want.WantedBy = []string{"b.target"}
	checkRead(t, text, "a@b.target", want, "lib/a@.target")
	checkFault(t, text, "a@b-c.target", api.Fault{Code: api.ErrValue, At: 2}, "lib/a@.target")
}

// The lists of a unit that was read are its own.
func TestReadListsAreNew(t *testing.T) {
	files := tree("lib/a.service : WantedBy=b.target c.target | Also=d.target\nlib/a.service.d/x.conf = [Install] | Alias=e.service")
	first, _, _ := enable.Read(files, "a.service")
	second, _, _ := enable.Read(files, "a.service")
	for _, list := range [][]string{first.WantedBy, first.Also, first.Alias, first.Start[0].Words} {
		spoiled := list[:cap(list)]
		for i := range spoiled {
			spoiled[i] = "spoilt"
		}
	}
	if !slices.Equal(second.WantedBy, []string{"b.target", "c.target"}) || !slices.Equal(second.Also, []string{"d.target"}) || !slices.Equal(second.Alias, []string{"e.service"}) || second.Start[0].Words[0] != "/x" {
		t.Errorf("the unit is now %+v", second)
	}
}
