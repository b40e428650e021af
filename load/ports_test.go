package load_test

import (
	"slices"
	"strings"
	"testing"

	"matins/api"
	"matins/load"
)

// checkPorts checks which sockets have a port of another one. Sockets are given as
// names and ports ("a=80 81, b=81").
func checkPorts(t *testing.T, sockets, more, clashing string) {
	t.Helper()
	text := more
	var units []string
	for socket := range strings.SplitSeq(sockets, ", ") {
		name, ports, _ := strings.Cut(socket, "=")
		text += "\nlib/" + name + ".socket = [Socket] | ListenStream=" + ports
		units = append(units, name+".socket")
	}
	files := tree(text)
	for range 2 {
		for range units {
			var bads []string
			for _, l := range load.All(files, units) {
				name, isSocket := strings.CutSuffix(l.Name, ".socket")
				if isSocket && l.State != api.LLoaded {
					bads = append(bads, name)
					if want := bad(l.Name, "lib/"+l.Name, api.ErrPort, 0); !same(l, want) || !zero(l) {
						t.Errorf("%q: %+v, want %+v", sockets, l, want)
					}
				}
			}
			checkText(t, sockets, strings.Join(bads, " "), clashing)
			units = append(units[1:], units[0])
		}
		slices.Reverse(units)
	}
}

// P14.2: sockets that have a port of another one, which comes before by its name.
func TestAllPorts(t *testing.T) {
	for sockets, clashing := range map[string]string{
		"a=80, b=81":                       "",
		"a=80, b=80":                       "b",
		"a=80, B=80":                       "a",
		"a=80 81 82, b=1 2 3 82":           "b",
		"a=80 81 82, b=83 82 84":           "b",
		"a=80 81 82, b=80":                 "b",
		"a=80, b=79 81":                    "",
		"a=80, b=80, c=80":                 "b c",
		"a=80, b=80 81, c=81":              "b", // b is bad already
		"a=80, b=80 81, c=81, d=81":        "b d",
		"a=80, b=81, c=80 81, d=82, e=82":  "c e",
		"a=80 80, b=81 81":                 "", // its own port again is none of another one
		"a=1, b=65535, c=65535":            "c",
		"a=8, b=80, c=800, d=8000, e=8080": "",
	} {
		checkPorts(t, sockets, "", clashing)
	}
}

// Only sockets that are loaded count.
func TestAllPortsOfOthers(t *testing.T) {
	// Not loaded with the others.
	checkPorts(t, "b=80", "lib/a.socket = [Socket] | ListenStream=80", "")
	// Bad, masked.
	const others = "lib/a.socket = [Socket] | ListenStream=80 | Odd=1\nlib/a1.socket = [Socket] | ListenStream=80\netc/a1.socket > null\n"
	for _, l := range load.All(tree(others+"lib/b.socket = [Socket] | ListenStream=80"), []string{"a.socket", "a1.socket", "b.socket"}) {
		if l.Name == "b.socket" && l.State != api.LLoaded {
			t.Errorf("%+v", l)
		}
	}
	// The same socket under another name.
	l := loaded(t, "etc/a.socket > b.socket\nlib/b.socket = [Socket] | ListenStream=80", "b.socket a.socket", "b.socket")
	if l.State != api.LLoaded {
		t.Errorf("%+v", l)
	}
	// Instances of one template have the same ports.
	if l := loaded(t, "lib/a@.socket = [Socket] | ListenStream=80", "a@i.socket a@j.socket", "a@j.socket"); !same(l, bad("a@j.socket", "lib/a@.socket", api.ErrPort, 0)) {
		t.Errorf("%+v", l)
	}
}

// What a socket names is loaded even if it becomes bad, and those that name it go on
// doing so.
func TestAllPortsLeaveTheRest(t *testing.T) {
	const text = `
		lib/a.socket = [Socket] | ListenStream=80
		lib/b.socket = [Socket] | ListenStream=80 | Service=c.service | [Unit] | Wants=w.service | Requires=l.service
		etc/l.service > r.service
		lib/r.service : #
		lib/b.socket.wants/x.service > x.service
		lib/b.socket.requires/y.service > y.service
		lib/z.service : Sockets=b.socket | [Unit] | Requires=b.socket`
	for _, units := range []string{"a.socket z.service", "z.service b.socket a.socket"} {
		checkNames(t, text, units, "a.service a.socket b.socket c.service r.service w.service x.service y.service z.service")
		z := loaded(t, text, units, "z.service")
		checkText(t, "z", relsOf(z.U)+" "+strings.Join(z.U.Sockets, " "), "requires:b.socket b.socket")
		b := loaded(t, text, units, "b.socket")
		if !same(b, bad("b.socket", "lib/b.socket", api.ErrPort, 0)) || !zero(b) {
			t.Errorf("%+v", b)
		}
	}
}
