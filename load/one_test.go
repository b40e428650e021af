package load_test

import (
	"slices"
	"strconv"
	"strings"
	"testing"

	"matins/api"
	"matins/load"
	"matins/unit"
)

// noNames are no unit names.
var noNames = []string{
	"", ".", "a", "a.", ".service", "@.service", "@i.service", "a@b@c.service", "a.mount", "a.Service", "a.service ", " a.service", "é.service", "a.service\n", "a.service\x00", "\xff.service",
	"a%i.service", "service", "null", "a.service.d", "etc/a.service", "/a.service", "t.target.wants/a.service", strings.Repeat("x", 53) + ".service",
}

// wrong are files each of which may be there neither alone nor with others.
var wrong = []api.File{
	{}, {Path: "a.service"}, {Path: "usr/a.service"}, {Path: "etc/a"}, {Path: "etc/a.service", Text: strings.Repeat("#", 20001)}, {Path: "etc/a.service", Text: "x", Link: "b.service"}, {Path: "etc/a.service", Link: "b.timer"},
	{Path: "etc/a.service.d/.conf"}, {Path: "etc/t.target.wants/a.service"}, {Path: "etc/t.target.wants/a@.service", Link: "a.service"},
}

func missing(name string) api.Loaded { return api.Loaded{Name: name, State: api.LMissing} }
func masked(name string) api.Loaded  { return api.Loaded{Name: name, State: api.LMasked} }

func bad(name, path string, code api.Errno, at int) api.Loaded {
	return api.Loaded{Name: name, State: api.LBad, Path: path, Fault: api.Fault{Code: code, At: at}}
}

// P14.1: a unit without a file.
func TestOneMissing(t *testing.T) {
	const text = `
		lib/b.service : [Unit] | Wants=a.service
		lib/c.service > b.service
		lib/a@.service
		etc/a.service.d/x.conf = [Service] | ExecStart=/x
		etc/a.service.wants/b.service > b.service
		etc/a.service.requires/b.service > b.service
		etc/b.service.wants/a.service > a.service`
	for _, name := range []string{"a.service", "a.socket", "b@.service", "b@i.service", "b.timer", "sysinit.target", "shutdown.target"} {
		checkOne(t, tree(text), name, missing(name))
		checkOne(t, nil, name, missing(name))
	}
}

// P14.1: any other error in finding the files. The Name is the one that was asked
// for.
func TestOneNotFound(t *testing.T) {
	const sound = "lib/a.service : # \nlib/b.service > a.service\nlib/m.service > null"
	for _, file := range wrong {
		for _, name := range []string{"a.service", "b.service", "m.service", "q.service", "a", "", "t@.service"} {
			checkOne(t, append(tree(sound), file), name, bad(name, "", api.ErrForm, 0))
			checkOne(t, []api.File{file}, name, bad(name, "", api.ErrForm, 0))
		}
	}
	checkOne(t, append(tree(sound), tree(sound)...), "a.service", bad("a.service", "", api.ErrForm, 0))
	checkOne(t, numbered(121), "a.service", bad("a.service", "", api.ErrForm, 0))
	for _, name := range noNames {
		checkOne(t, tree(sound), name, bad(name, "", api.ErrName, 0))
		checkOne(t, nil, name, bad(name, "", api.ErrName, 0))
	}
	const links = `
		etc/a.service > b.service
		lib/b.service > none.service
		etc/c.service > d.service
		run/d.service > c.service
		etc/e.service > e.service
		etc/t@.service > none@.service
		etc/long@.service > longer-than-the-other@.service
		lib/longer-than-the-other@.service = x
		etc/a.service.wants/x.service > x.service`
	instance := "long@" + strings.Repeat("i", 40) + ".service"
	for _, name := range []string{"a.service", "b.service", "c.service", "d.service", "e.service", "t@.service", "t@i.service", instance} {
		checkOne(t, tree(links), name, bad(name, "", api.ErrLink, 0))
	}
	// Eight links lead on, nine don't.
	chain := "lib/9.service = x\n"
	for i := range 9 {
		chain += "lib/" + strconv.Itoa(i) + ".service > " + strconv.Itoa(i+1) + ".service\n"
	}
	checkOne(t, tree(chain), "0.service", bad("0.service", "", api.ErrLink, 0))
	checkOne(t, tree(chain), "1.service", bad("9.service", "lib/9.service", api.ErrLine, 1))
}

// P14.1: a masked unit. The Name is that at the end of the links.
func TestOneMasked(t *testing.T) {
	const text = `
		etc/a.service > null
		lib/a.service : [Unit] | Wants=c.service
		run/b.service > a.service
		etc/t@.service > null
		lib/u@.service > t@.service
		etc/v.service > u@i.service
		etc/w@i.service > null
		lib/w@.service = x
		etc/a.service.wants/c.service > c.service
		etc/a.service.requires/c.service > c.service
		etc/a.service.d/x.conf = x`
	for name, want := range map[string]string{
		"a.service": "a.service", "b.service": "a.service", "t@.service": "t@.service", "t@i.service": "t@i.service", "u@.service": "t@.service", "u@k.service": "t@k.service",
		"v.service": "t@i.service", "w@i.service": "w@i.service",
	} {
		checkOne(t, tree(text), name, masked(want))
	}
	checkOne(t, tree(text), "w@j.service", bad("w@j.service", "lib/w@.service", api.ErrLine, 1))
	// In another directory behind the unit file, the link counts for nothing.
	checkOne(t, tree("run/a.target\nlib/a.target > null"), "a.target", api.Loaded{Name: "a.target", State: api.LLoaded, Path: "run/a.target", U: unit.New("a.target")})
}

// P14.1: a unit that can't be read, with the path and the line of the fault. The
// Name is that at the end of the links.
func TestOneBad(t *testing.T) {
	const text = `
		etc/a.service = [Service] | ExecStart=/x |  | odd
		lib/a.service : # sound
		lib/alias.service > a.service
		lib/b.service = # no command
		lib/c.service : [Unit] | Wants=c
		lib/d.service = # no command
		etc/d.service.d/1.conf = [Service] | ExecStart=/x
		run/d.service.d/2.conf = # | # | Odd
		lib/d.service.d/3.conf = Odd
		lib/e.timer : [Unit] | Odd=1
		lib/e.timer.d/1.conf = [Service] | ExecStart=/x
		lib/f.socket = [Socket] | ListenStream=0
		lib/g.service : # | ExecStart=/y
		lib/t@.service : # sound
		etc/t@.service.d/1.conf = [Unit | Description=x
		run/u@.service > t@.service
		etc/own.service > u@i.service
		lib/s@.service : # sound
		lib/a.service.wants/c.service > c.service
		lib/a.service.requires/c.service > c.service
		lib/s@.service.wants/c.service > c.service`
	for name, want := range map[string]api.Loaded{
		"a.service":     bad("a.service", "etc/a.service", api.ErrLine, 4),
		"alias.service": bad("a.service", "etc/a.service", api.ErrLine, 4),
		"b.service":     bad("b.service", "lib/b.service", api.ErrNone, 0),
		"c.service":     bad("c.service", "lib/c.service", api.ErrValue, 4),
		"d.service":     bad("d.service", "run/d.service.d/2.conf", api.ErrLine, 3),
		"e.timer":       bad("e.timer", "lib/e.timer", api.ErrKey, 4),
		"f.socket":      bad("f.socket", "lib/f.socket", api.ErrValue, 2),
		"g.service":     bad("g.service", "lib/g.service", api.ErrTwice, 0),
		"t@i.service":   bad("t@i.service", "etc/t@.service.d/1.conf", api.ErrSection, 1),
		"u@i.service":   bad("t@i.service", "etc/t@.service.d/1.conf", api.ErrSection, 1),
		"own.service":   bad("t@i.service", "etc/t@.service.d/1.conf", api.ErrSection, 1),
		// A template is none that may run, but its files are parsed first.
		"s@.service": bad("s@.service", "lib/s@.service", api.ErrName, 0),
		"t@.service": bad("t@.service", "etc/t@.service.d/1.conf", api.ErrSection, 1),
		"u@.service": bad("t@.service", "etc/t@.service.d/1.conf", api.ErrSection, 1),
	} {
		checkOne(t, tree(text), name, want)
	}
	// The fault of the merged lines has the unit file's path, wherever the line is.
	checkOne(t, tree("lib/a.target\nlib/a.target.d/1.conf = # | [Unit] | Odd=1"), "a.target", bad("a.target", "lib/a.target", api.ErrKey, 3))
}

// P14.1: a unit that is loaded.

func TestOneLoaded(t *testing.T) {
	for _, place := range places {
		checkOne(t, tree(place+"/a.target"), "a.target", api.Loaded{Name: "a.target", State: api.LLoaded, Path: place + "/a.target", U: unit.New("a.target")})
	}
	u := unit.New("a.service")
	u.Desc = "a.service"
	u.Start = []api.Exec{{Words: []string{"/x"}}}
	u.Rels = []api.Rel{{Kind: api.RWants, Name: "l.service"}, {Kind: api.RAfter, Name: "c.service"}}
	u.Sockets = []string{"s.socket", "r.socket"}
	want := api.Loaded{Name: "a.service", State: api.LLoaded, Path: "lib/a.service", U: u}
	const text = `
		lib/a.service : [Unit] | Wants=l.service | After=c.service a.service | [Service] | Sockets=s.socket r.socket
		etc/a.service.d/x.conf = [Unit] | Description=%n
		etc/l.service > a.service
		lib/c.service > l.service`
	for _, name := range []string{"a.service", "l.service", "c.service"} {
		checkOne(t, tree(text), name, want)
	}
}

func TestOneInstances(t *testing.T) {
	const text = `
		lib/t@.target = [Unit] | Description=%i | Wants=%i.target
		etc/u@.target > t@.target
		etc/v.target > u@k.target
		etc/t@.target.wants/no.target > x.target
		etc/u@i.target.wants/no.target > x.target
		etc/t@i.target.wants/yes.target > x.target
		etc/t@k.target.requires/yes.target > x.target`
	for name, i := range map[string]string{"t@i.target": "i", "u@i.target": "i", "t@k.target": "k", "v.target": "k", "u@j.target": "j"} {
		u := unit.New("t@" + i + ".target")
		u.Desc = i
		u.Rels = []api.Rel{{Kind: api.RWants, Name: i + ".target"}}
		want := api.Loaded{Name: u.Name, State: api.LLoaded, Path: "lib/t@.target", U: u}
		switch i {
		case "i":
			want.Wants = []string{"yes.target"}
		case "k":
			want.Requires = []string{"yes.target"}
		}
		checkOne(t, tree(text), name, want)
	}
}

// The links are those of the unit's own name, as they are, without the name itself.
func TestOneLinks(t *testing.T) {
	const text = `
		lib/a.target = [Unit] | Wants=x.target | Requires=y.target
		etc/l.target > a.target
		etc/a.target.wants/c.target > c.target
		run/a.target.wants/c.target > c.target
		lib/a.target.wants/b.target > odd.timer
		lib/a.target.wants/a.target > a.target
		lib/a.target.wants/l.target > a.target
		etc/a.target.wants/t@i.service > t@.service
		lib/a.target.requires/e.service > e.service
		etc/a.target.requires/d.service > e.service
		run/a.target.requires/a.target > b.target
		etc/l.target.wants/no.target > no.target
		etc/l.target.requires/no.target > no.target
		etc/b.target.wants/no.target > no.target`
	u := unit.New("a.target")
	u.Rels = []api.Rel{{Kind: api.RWants, Name: "x.target"}, {Kind: api.RRequires, Name: "y.target"}}
	want := api.Loaded{
		Name: "a.target", State: api.LLoaded, Path: "lib/a.target", U: u,
		Wants:    []string{"b.target", "c.target", "l.target", "t@i.service"},
		Requires: []string{"d.service", "e.service"},
	}
	checkOne(t, tree(text), "a.target", want)
	checkOne(t, tree(text), "l.target", want)
}

// A port that another socket has is nothing to One.
func TestOneKnowsNoOthers(t *testing.T) {
	files := tree("lib/a.socket = [Socket] | ListenStream=80\nlib/b.socket = [Socket] | ListenStream=80")
	for _, name := range []string{"a.socket", "b.socket"} {
		u := unit.New(name)
		u.Ports = []int{80}
		checkOne(t, files, name, api.Loaded{Name: name, State: api.LLoaded, Path: "lib/" + name, U: u})
		if got := load.One(files, name); got.U.Unit != "" || !slices.Equal(got.U.Ports, []int{80}) {
			t.Errorf("%+v", got)
		}
	}
}
