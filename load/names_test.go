package load_test

import (
	"strings"
	"testing"

	"matins/api"
	"matins/load"
)

// aliasText has links among the names of units.
const aliasText = `
	etc/l.target > b.target
	etc/l2.target > l.target
	lib/b.target
	etc/self.target > a.target
	etc/mask.target > m.target
	etc/m.target > null
	etc/lost.target > none.target
	etc/u@.target > t@.target
	lib/t@.target
	etc/l.service > x.service
	lib/x.service = odd
	etc/l.socket > s.socket
	lib/s.socket = odd
	`

// P14.2: in Rels, names are replaced by what they stand for.
func TestAllRels(t *testing.T) {
	for _, x := range []struct{ lines, want string }{
		{"Wants=b.target", "wants:b.target"},
		{"Wants=l.target", "wants:b.target"},
		{"Wants=l2.target", "wants:b.target"},
		// What is not loaded has a name as well.
		{"Wants=mask.target m.target", "wants:m.target"},
		{"Wants=none.target lost.target", "wants:none.target wants:lost.target"},
		{"Wants=u@i.target t@j.target", "wants:t@i.target wants:t@j.target"},
		{"Wants=l.service", "wants:x.service"},
		// One of several that are the same stays, the first one.
		{"Wants=b.target l.target l2.target", "wants:b.target"},
		{"Wants=c.target l.target d.target b.target e.target l2.target", "wants:c.target wants:b.target wants:d.target wants:e.target"},
		{"Wants=l.target | After=b.target l.target | Wants=b.target | Requires=l2.target", "wants:b.target after:b.target requires:b.target"},
		{"After=z.target | Wants=l2.target | After=a.service | Wants=b.target | After=z.target", "after:z.target wants:b.target after:a.service"},
		// None leads to the unit itself.
		{"Wants=self.target", ""},
		{"Wants=a.target b.target | After=self.target b.target", "wants:b.target after:b.target"},
		{"Requires=self.target | Wants=l.target self.target l2.target c.target", "wants:b.target wants:c.target"},
		{"Requires=l.target | Wants=l.target | Requisite=l.target | BindsTo=l.target | PartOf=l.target | Conflicts=l.target | Before=l.target | After=l.target | OnFailure=l.target",
			"requires:b.target wants:b.target requisite:b.target binds:b.target part:b.target conflicts:b.target before:b.target after:b.target failure:b.target"},
	} {
		l := loaded(t, aliasText+"lib/a.target = [Unit] | "+x.lines, "a.target", "a.target")
		checkText(t, x.lines, relsOf(l.U), x.want)
	}
}

// P14.2: in Sockets too; each is kept once, in their order.
func TestAllSockets(t *testing.T) {
	for names, want := range map[string]string{
		"s.socket":                              "s.socket",
		"l.socket":                              "s.socket",
		"l.socket s.socket":                     "s.socket",
		"z.socket l.socket b.socket s.socket":   "z.socket s.socket b.socket",
		"z.socket s.socket b.socket l.socket":   "z.socket s.socket b.socket",
		"l.target a.service b.target a2.socket": "b.target a.service a2.socket",
	} {
		l := loaded(t, aliasText+"lib/a.service : Sockets="+names, "a.service", "a.service")
		checkText(t, names, strings.Join(l.U.Sockets, " "), want)
	}
	// Also if the unit itself is among them, under whichever name.
	l := loaded(t, "lib/a.service : Sockets=c.socket l.service b.socket a.service\netc/l.service > a.service", "a.service", "a.service")
	checkText(t, "itself", strings.Join(l.U.Sockets, " "), "c.socket a.service b.socket")
}

// P14.2: Wants and Requires are ascending behind that, each once, without the unit.
func TestAllLinks(t *testing.T) {
	for _, folder := range []string{"wants", "requires"} {
		for names, want := range map[string]string{
			"":                               "",
			"c.target":                       "c.target",
			"l.target":                       "b.target",
			"l.target b.target l2.target":    "b.target",
			"a.target":                       "",
			"self.target":                    "",
			"self.target a.target c.target":  "c.target",
			"l2.target self.target l.target": "b.target",
			"c.target l.target a2.target":    "a2.target b.target c.target",
			"u@i.target s.target u@k.target": "s.target t@i.target t@k.target",
			"mask.target lost.target z.target none.target": "lost.target m.target none.target z.target",
			"l.service b.service":                          "b.service x.service",
		} {
			text := aliasText + "lib/a.target\n"
			for i, name := range strings.Fields(names) {
				text += places[i%3] + "/a.target." + folder + "/" + name + " > odd.target\n"
			}
			l := loaded(t, text, "self.target", "a.target")
			got, other := l.Wants, l.Requires
			if folder == "requires" {
				got, other = other, got
			}
			checkText(t, text, strings.Join(got, " "), want)
			if len(other) != 0 {
				t.Errorf("%q: %q", text, other)
			}
		}
	}
	// The lists know nothing of one another, and nothing of Rels.
	l := loaded(t, `
		lib/a.target = [Unit] | Wants=b.target | Requires=b.target
		etc/a.target.wants/b.target > b.target
		lib/a.target.wants/c.target > b.target
		run/a.target.requires/b.target > b.target`, "a.target", "a.target")
	checkText(t, "lists", flat([]any{relsOf(l.U), l.Wants, l.Requires}), flat([]any{"wants:b.target requires:b.target", []string{"b.target", "c.target"}, []string{"b.target"}}))
}

// P14.2: sockets and timers have what they start in Unit.
func TestAllWoken(t *testing.T) {
	const links = "\netc/l.service > x.service\netc/l.target > x.target\nlib/x.target\nlib/x.service : #\netc/m.service > n.service\netc/n.service > null\nlib/y@.service : #\netc/t@.service > y@.service"
	long := strings.Repeat("x", 53)
	for _, x := range []struct{ name, lines, want string }{
		{"a.timer", "", "a.service"},
		{"l.timer", "", "x.service"},
		{"m.timer", "", "n.service"},
		{"a.timer", " | Unit=b.timer", "b.timer"},
		{"a.timer", " | Unit=l.service", "x.service"},
		{"a.timer", " | Unit=l.target", "x.target"},
		{"a.timer", " | Unit=a.timer", "a.timer"},
		{"t@i.timer", "", "y@i.service"},
		{long + ".timer", "", ""},
		{long + ".timer", " | Unit=l.service", "x.service"},
		{"a.socket", "", "a.service"},
		{"l.socket", "", "x.service"},
		{"a.socket", " | Service=b.service", "b.service"},
		{"a.socket", " | Service=l.service", "x.service"},
		{long + ".socket", "", ""},
	} {
		lines := "[Timer] | OnBootSec=1" + x.lines
		if strings.HasSuffix(x.name, ".socket") {
			lines = "[Socket] | ListenStream=80" + x.lines
		}
		text := links + "\nlib/" + x.name + " = " + lines
		if l := loaded(t, text, x.name, x.name); l.State != api.LLoaded || l.U.Unit != x.want {
			t.Errorf("%q: %+v, want Unit %q", text, l, x.want)
		}
	}
	// Units of other kinds start none.
	for _, name := range []string{"x.service", "x.target"} {
		if l := loaded(t, links, name, name); l.State != api.LLoaded || l.U.Unit != "" {
			t.Errorf("%+v", l)
		}
	}
}

// P14.2: nothing else is changed.
func TestAllLeavesTheRest(t *testing.T) {
	const text = `
		etc/l.target > b.target
		etc/l.service > b.service
		lib/a.service : Type=oneshot | Environment=A=l.service | Restart=always | ExecStop=/l.service | [Unit] | Description=l.target | DefaultDependencies=no | [Install] | WantedBy=l.target b.target | RequiredBy=l.target | Alias=l.service | Also=l.target | DefaultInstance=l
		lib/a.service.d/x.conf = [Service] | SuccessExitStatus=7
		lib/a.socket = [Socket] | ListenStream=7 5 6 | Backlog=3 | FileDescriptorName=l.service | Service=a.service
		lib/a.timer = [Timer] | OnCalendar=daily | OnBootSec=3 | OnBootSec=1 | Unit=a.service | Persistent=yes`
	files := tree(text)
	all := load.All(files, []string{"a.service", "a.timer", "a.socket"})
	checkText(t, "names", namesOf(all), "a.service a.socket a.timer")
	for _, l := range all {
		if one := load.One(files, l.Name); !same(l, one) {
			t.Errorf("%+v, want %+v", l, one)
		}
	}
	// Nor is a unit that is not loaded.
	const others = "lib/a.service = # odd\netc/m.service > null\nlib/b.socket = [Socket] | ListenStream=0"
	for _, l := range load.All(tree(others), []string{"a.service", "m.service", "b.socket", "c.timer", "odd"}) {
		if one := load.One(tree(others), l.Name); !same(l, one) || !zero(l) {
			t.Errorf("%+v, want %+v", l, one)
		}
	}
}

// Names that nothing is loaded for any more are replaced too.
func TestAllReplacesUnloaded(t *testing.T) {
	const text = `
		etc/l.target > b.target
		lib/b.target
		etc/l.socket > s.socket
		lib/s.socket = [Socket] | ListenStream=1
		etc/l.service > x.service
		lib/x.service : #
		etc/a.service.wants/l.target > l.target
		etc/a.service.requires/l.target > l.target
		lib/l.timer : [Unit] | After=l.target
		lib/a.service : [Unit] | After=l.target | [Service] | Sockets=l.socket`
	all := load.All(tree(text), append(fillers(62), "l.timer", "a.service"))
	a, timer := all[0], all[63]
	checkText(t, "names", a.Name+" "+timer.Name, "a.service l.timer")
	checkText(t, "the service", flat([]any{relsOf(a.U), a.Wants, a.Requires, a.U.Sockets}), flat([]any{"after:b.target", []string{"b.target"}, []string{"b.target"}, []string{"s.socket"}}))
	checkText(t, "the timer", relsOf(timer.U)+" "+timer.U.Unit, "after:b.target x.service")
}
