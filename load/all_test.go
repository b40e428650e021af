package load_test

import (
	"slices"
	"strconv"
	"strings"
	"testing"

	"matins/api"
	"matins/load"
)

// fillers returns so many names of units that are missing.
func fillers(n int) []string {
	list := make([]string, n)
	for i := range list {
		list[i] = "filler" + strconv.Itoa(i) + ".timer"
	}
	return list
}

// checkOrder checks in which order units are loaded. As only 64 are loaded, each
// further name ahead of the others crowds out the unit that would be loaded last.
func checkOrder(t *testing.T, text, units, want string) {
	t.Helper()
	files := tree(text)
	var order []string
	for left := range 65 {
		ahead := fillers(64 - left)
		for _, l := range load.All(files, append(ahead, strings.Fields(units)...)) {
			if !slices.Contains(ahead, l.Name) && !slices.Contains(order, l.Name) {
				order = append(order, l.Name)
			}
		}
		if len(order) > left {
			t.Fatalf("%q: with room for %d there are %q", text, left, order)
		}
	}
	checkText(t, text+" "+units, strings.Join(order, " "), want)
}

// P14.2: which units are loaded.

func TestAllUnits(t *testing.T) {
	const text = `
		lib/a.target
		lib/b.target
		etc/c.target > a.target
		lib/t@.target
		etc/u@.target > t@.target
		etc/m.target > null
		etc/n.target > m.target
		etc/l.target > none.target`
	checkNames(t, text, "", "")
	checkNames(t, text, "a.target", "a.target")
	checkNames(t, text, "c.target", "a.target")
	checkNames(t, text, "b.target c.target a.target b.target", "a.target b.target")
	checkNames(t, text, "u@i.target t@i.target t@j.target t@.target", "t@.target t@i.target t@j.target")
	checkNames(t, text, "n.target m.target", "m.target")
	checkNames(t, text, "l.target none.target x l.target", "l.target none.target x")
	for name, state := range map[string]int{"a.target": api.LLoaded, "t@.target": api.LBad, "m.target": api.LMasked, "l.target": api.LBad, "none.target": api.LMissing, "x": api.LBad} {
		l := loaded(t, text, "x none.target l.target m.target t@.target a.target", name)
		if l.State != state || !same(l, load.One(tree(text), name)) {
			t.Errorf("%+v, want State %d", l, state)
		}
	}
	for _, name := range noNames {
		if all := load.All(tree(text), []string{name, name}); len(all) != 1 || !same(all[0], bad(name, "", api.ErrName, 0)) {
			t.Errorf("All of %q = %+v", name, all)
		}
	}
}

// What a name stands for is loaded once, under whichever names it comes.
func TestAllOnce(t *testing.T) {
	const text = `
		lib/a.target = [Unit] | Wants=b.target c.target | After=d.target
		lib/b.target = [Unit] | Wants=a.target l.target
		etc/c.target > b.target
		etc/d.target > c.target
		etc/l.target > a.target
		etc/a.target.wants/d.target > b.target`
	for _, units := range []string{"a.target", "l.target", "b.target", "c.target d.target", "l.target d.target a.target a.target"} {
		checkNames(t, text, units, "a.target b.target")
	}
}

// The units that are always loaded, if they are there.
func TestAllSysinitAndShutdown(t *testing.T) {
	checkNames(t, "lib/a.target", "a.target", "a.target")
	checkNames(t, "lib/sysinit.target", "", "sysinit.target")
	checkNames(t, "lib/shutdown.target", "", "shutdown.target")
	checkNames(t, "lib/shutdown.target\nlib/sysinit.target", "x.target", "shutdown.target sysinit.target x.target")
	checkNames(t, "lib/shutdown.target\nlib/sysinit.target", "sysinit.target shutdown.target", "shutdown.target sysinit.target")
	// Missing ones too, where they are named.
	checkNames(t, "lib/a.target = [Unit] | Before=shutdown.target", "a.target sysinit.target", "a.target shutdown.target sysinit.target")
	// However else they are there.
	checkNames(t, "etc/sysinit.target > null\netc/shutdown.target = odd", "", "shutdown.target sysinit.target")
	checkNames(t, "etc/sysinit.target > a.target\nlib/a.target\netc/shutdown.target > none.target", "", "a.target shutdown.target")
	checkNames(t, "lib/sysinit.target = [Unit] | Wants=a.target\nlib/shutdown.target = [Unit] | Wants=b.target", "", "a.target b.target shutdown.target sysinit.target")
	for _, x := range []struct {
		text, name string
		state      int
	}{
		{"etc/sysinit.target > null", "sysinit.target", api.LMasked}, {"etc/shutdown.target > null", "shutdown.target", api.LMasked}, {"lib/sysinit.target = odd", "sysinit.target", api.LBad}, {"lib/sysinit.target", "sysinit.target", api.LLoaded},
	} {
		if l := loaded(t, x.text, "", x.name); l.State != x.state {
			t.Errorf("%q: %+v", x.text, l)
		}
	}
	// Other names of that kind are none of them.
	checkNames(t, "lib/sysinit.service : #\nlib/shutdown.timer : #\nlib/basic.target\nlib/sysinit.target.d/x.conf\nlib/sysinit.target.wants/a.target > a.target", "", "")
	// Files that may not be there make all names bad.
	for _, file := range wrong {
		all := load.All([]api.File{file}, []string{"a.service", ""})
		checkText(t, "names", namesOf(all), " a.service shutdown.target sysinit.target")
		for _, l := range all {
			if !same(l, bad(l.Name, "", api.ErrForm, 0)) {
				t.Errorf("%+v", l)
			}
		}
	}
}

// Units name others in each kind of Rels, by links, by their sockets, and as what
// they start.
func TestAllNamed(t *testing.T) {
	for _, key := range []string{"Requires", "Wants", "Requisite", "BindsTo", "PartOf", "Conflicts", "Before", "After", "OnFailure"} {
		checkNames(t, "lib/a.target = [Unit] | "+key+"=b.timer c.service\nlib/c.service : [Unit] | "+key+"=d.socket", "a.target", "a.target b.timer c.service d.socket")
	}
	checkNames(t, "lib/a.target\netc/a.target.wants/b.target > x.target\nrun/a.target.wants/c.target > x.target\nlib/a.target.requires/d.target > x.target", "a.target", "a.target b.target c.target d.target")
	checkNames(t, "lib/a.service : Sockets=s.socket r.socket\nlib/r.socket = [Socket] | ListenStream=1", "a.service", "a.service r.service r.socket s.socket")
	checkNames(t, "lib/a.socket = [Socket] | ListenStream=1", "a.socket", "a.service a.socket")
	checkNames(t, "lib/a.socket = [Socket] | ListenStream=1 | Service=b.service", "a.socket", "a.socket b.service")
	checkNames(t, "lib/a.timer : #", "a.timer", "a.service a.timer")
	checkNames(t, "lib/a.timer : Unit=b.target", "a.timer", "a.timer b.target")
	checkNames(t, "lib/a.timer : Unit=a.timer", "a.timer", "a.timer")
	checkNames(t, "lib/a@.timer : #", "a@i.timer", "a@i.service a@i.timer")
	// A name that is too long for a service.
	long := strings.Repeat("x", 53)
	checkNames(t, "lib/"+long+".timer : #", long+".timer", long+".timer")
	checkNames(t, "lib/"+long+".timer : Unit=a.service", long+".timer", "a.service "+long+".timer")
	checkNames(t, "lib/"+long+".socket = [Socket] | ListenStream=1", long+".socket", long+".socket")
	// Names of names, by way of links.
	checkNames(t, `
		lib/a.target = [Unit] | Wants=l.target
		etc/l.target > b.target
		lib/b.target
		etc/b.target.wants/c.target > c.target
		lib/c.target
		etc/c.target.requires/t@i.timer > t@.timer
		lib/t@.timer : [Unit] | After=%i.target
		lib/i.target = [Unit] | Before=z.target`, "a.target", "a.target b.target c.target i.target t@i.service t@i.timer z.target")
}

// What names nothing.
func TestAllNotNamed(t *testing.T) {
	// Keys of the section Install, units that name this one, links for other names.
	checkNames(t, `
		lib/a.target = [Install] | WantedBy=b.target | RequiredBy=c.target | Alias=d.target | Also=e.target
		lib/f.target = [Unit] | Wants=a.target
		etc/l.target > a.target
		etc/l.target.wants/g.target > g.target
		etc/f.target.requires/a.target > a.target
		lib/a.service : [Unit] | Wants=h.target`, "l.target", "a.target")
	// Names that were taken back.
	checkNames(t, "lib/a.target = [Unit] | Wants=b.target\nlib/a.target.d/x.conf = [Unit] | Wants= | Wants=c.target", "a.target", "a.target c.target")
	// Units that are not loaded.
	checkNames(t, `
		etc/m.target > null
		lib/m.target = [Unit] | Wants=a.target
		etc/m.target.wants/b.target > b.target
		lib/n.target = [Unit] | Wants=c.target | Odd=1
		etc/n.target.wants/d.target > d.target
		etc/o.target.wants/e.target > e.target
		lib/p.timer = # no time
		lib/q.socket = # no port`, "m.target n.target o.target p.timer q.socket", "m.target n.target o.target p.timer q.socket")
}

// P14.2: the order in which units are loaded, and that only 64 are.

func TestAllOrder(t *testing.T) {
	checkOrder(t, "lib/a.target", "c.target a.target b.target", "c.target a.target b.target")
	checkOrder(t, "lib/sysinit.target\nlib/shutdown.target", "z.target a.target", "z.target a.target sysinit.target shutdown.target")
	// Names of units come behind, those of the first one first.
	checkOrder(t, `
		lib/a.target = [Unit] | Wants=c.target
		lib/b.target = [Unit] | Wants=d.target
		lib/c.target = [Unit] | Wants=e.target
		lib/d.target = [Unit] | Wants=f.target
		lib/sysinit.target = [Unit] | Wants=g.target
		lib/shutdown.target = [Unit] | Wants=h.target`, "b.target a.target", "b.target a.target sysinit.target shutdown.target d.target c.target g.target h.target f.target e.target")
	// Rels, in their order, then Wants, Requires, Sockets and what is started.
	checkOrder(t, `
		lib/z.service : [Unit] | After=r3.target | Wants=r1.target r2.target | Requires=r0.target | [Service] | Sockets=s2.socket s1.socket
		etc/z.service.wants/w1.target > w1.target
		lib/z.service.wants/w0.target > w0.target
		etc/z.service.requires/q1.target > q1.target
		lib/z.service.requires/q0.target > q0.target`, "z.service", "z.service r3.target r1.target r2.target r0.target w0.target w1.target q0.target q1.target s2.socket s1.socket")
	checkOrder(t, `
		lib/z.timer : Unit=a.service | [Unit] | Wants=r.target
		etc/z.timer.wants/w.target > w.target
		etc/z.timer.requires/q.target > q.target`, "z.timer", "z.timer r.target w.target q.target a.service")
	// The names are those of the files, not what they stand for.
	checkOrder(t, `
		lib/z.target
		etc/b.target > x.target
		lib/x.target
		etc/z.target.wants/b.target > b.target
		etc/z.target.wants/c.target > c.target
		etc/z.target.wants/y.target > x.target
		etc/y.target > a.target
		lib/a.target`, "z.target", "z.target x.target c.target a.target")
	// A unit that was named before comes where it was named first.
	checkOrder(t, `
		lib/a.target = [Unit] | Wants=b.target c.target
		lib/b.target = [Unit] | Wants=e.target a.target
		lib/c.target = [Unit] | Wants=d.target e.target`, "a.target c.target", "a.target c.target b.target d.target e.target")
}

func TestAllMost(t *testing.T) {
	for n := range 70 {
		all := load.All(nil, fillers(n))
		if want := fillers(min(n, 64)); len(all) != len(want) || slices.ContainsFunc(all, func(l api.Loaded) bool { return !slices.Contains(want, l.Name) }) {
			t.Errorf("of %d there are %q", n, namesOf(all))
		}
	}
	// Names of one and the same unit count once.
	text := "lib/a.target = [Unit] | Wants=b.target"
	var units []string
	for _, filler := range fillers(62) {
		units = append(units, "a.target", filler, "l.target", filler)
	}
	all := load.All(tree(text+"\netc/l.target > a.target"), units)
	if len(all) != 64 || all[0].Name != "a.target" || all[1].Name != "b.target" {
		t.Errorf("%q", namesOf(all))
	}
	// A chain of units.
	var files []api.File
	for i := range 119 {
		files = append(files, api.File{Path: "lib/c" + strconv.Itoa(1000+i) + ".target", Text: "[Unit]\nWants=c" + strconv.Itoa(1001+i) + ".target\n"})
	}
	all = load.All(files, []string{"c1000.target"})
	if len(all) != 64 || all[0].Name != "c1000.target" || all[63].Name != "c1063.target" || relsOf(all[63].U) != "wants:c1064.target" {
		t.Errorf("%q", namesOf(all))
	}
	// Those that are named are crowded out by units, and so are sysinit.target and
	// shutdown.target.
	files = tree("lib/a.target = [Unit] | Wants=b.target\nlib/sysinit.target\nlib/shutdown.target")
	for n, want := range map[int]string{60: "a.target b.target", 61: "a.target", 62: "a.target", 63: "a.target"} {
		all := load.All(files, append(fillers(n), "a.target"))
		all = slices.DeleteFunc(all, func(l api.Loaded) bool { return strings.HasPrefix(l.Name, "filler") || strings.HasPrefix(l.Name, "s") })
		checkText(t, strconv.Itoa(n), namesOf(all), want)
	}
}

// P14.2: the result is ascending by Name, byte by byte.
func TestAllAscending(t *testing.T) {
	want := []string{"", "A.target", "a", "a-.target", "a..target", "a.service", "a.target", "a:.target", "a@.target", "a@b.target", `a\x2d.target`, "a_.target", "b.target"}
	if !slices.IsSorted(want) {
		t.Fatal("the test is wrong")
	}
	for shift := range want {
		units := slices.Concat(want[shift:], want[:shift])
		for range 2 {
			if got := namesOf(load.All(nil, units)); got != strings.Join(want, " ") {
				t.Errorf("All(%q) has %q", units, got)
			}
			slices.Reverse(units)
		}
	}
}
