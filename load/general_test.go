package load_test

import (
	"slices"
	"strconv"
	"strings"
	"sync"
	"testing"

	"matins/api"
	"matins/load"
)

// Each function has the face that the chapter gives it.
var (
	_ func([]api.File, string) api.Loaded     = load.One
	_ func([]api.File, []string) []api.Loaded = load.All
)

// rich has files for many of the answers.
const rich = `
	lib/a.service : [Unit] | Wants=l.service b.service | After=c.service a2.service | [Service] | Sockets=s.socket l.socket | Environment=A=1 B=2 | SuccessExitStatus=1 2 | ExecStop=/y z | [Install] | WantedBy=t.target
	etc/a2.service > a.service
	etc/l.service > c.service
	lib/c.service : #
	etc/a.service.wants/z.service > z.service
	lib/a.service.wants/y.service > y.service
	etc/a.service.requires/l.service > l.service
	etc/l.socket > s.socket
	lib/s.socket = [Socket] | ListenStream=80 81
	lib/r.socket = [Socket] | ListenStream=81 82 | Service=l.service
	lib/u.timer : Unit=l.service | OnCalendar=daily
	etc/m.service > null
	lib/odd.service = odd
	lib/sysinit.target`

const richNames = "a.service b.service c.service m.service odd.service r.socket s.service s.socket sysinit.target u.timer x y.service z.service"

var richUnits = []string{"u.timer", "a2.service", "r.socket", "m.service", "odd.service", "x"}

// checkRich checks answers for the files of rich.
func checkRich(t *testing.T, files []api.File) {
	t.Helper()
	all := load.All(files, richUnits)
	checkText(t, "names", namesOf(all), richNames)
	if len(all) != 13 {
		return
	}
	a, odd, r, s, u := all[0], all[4], all[5], all[7], all[9]
	checkText(t, "a", flat([]any{relsOf(a.U), a.Wants, a.Requires, a.U.Sockets, a.U.Env, a.U.Success, a.U.Stop, a.U.WantedBy}),
		flat([]any{"wants:c.service wants:b.service after:c.service", []string{"y.service", "z.service"}, []string{"c.service"}, []string{"s.socket"}, []api.Pair{{Name: "A", Value: "1"}, {Name: "B", Value: "2"}}, []int{1, 2}, []api.Exec{{Words: []string{"/y", "z"}}}, []string{"t.target"}}))
	checkText(t, "r", flat([]any{r.U.Ports, r.U.Unit}), flat([]any{[]int{81, 82}, "c.service"}))
	checkText(t, "u", flat([]any{u.U.Boot, u.U.Calendar, u.U.Unit}), flat([]any{[]int{1}, []string{"daily"}, "c.service"}))
	if !same(s, bad("s.socket", "lib/s.socket", api.ErrPort, 0)) || !same(odd, bad("odd.service", "lib/odd.service", api.ErrLine, 1)) {
		t.Errorf("%+v %+v", s, odd)
	}
	one := load.One(files, "a2.service")
	checkText(t, "One", flat([]any{one.Name, relsOf(one.U), one.Wants, one.Requires, one.U.Sockets}),
		flat([]any{"a.service", "wants:l.service wants:b.service after:c.service after:a2.service", []string{"y.service", "z.service"}, []string{"l.service"}, []string{"s.socket", "l.socket"}}))
}

// spoil writes into all lists of loaded units, up to the ends of their spare
// capacities.
func spoil(all []api.Loaded) {
	for i := range all {
		l := &all[i]
		for _, list := range [][]string{l.Wants, l.Requires, l.U.Sockets, l.U.Calendar, l.U.WantedBy, l.U.RequiredBy, l.U.Alias, l.U.Also} {
			fill(list, "spoilt")
		}
		for _, list := range [][]int{l.U.Success, l.U.Ports, l.U.Boot, l.U.Active, l.U.Idle} {
			fill(list, -7)
		}
		for _, list := range [][]api.Exec{l.U.Pre, l.U.Start, l.U.Post, l.U.Stop, l.U.Reload} {
			for _, command := range list {
				fill(command.Words, "spoilt")
			}
			fill(list, api.Exec{Dash: true})
		}
		fill(l.U.Rels, api.Rel{Kind: 7, Name: "spoilt"})
		fill(l.U.Env, api.Pair{Name: "spoilt"})
	}
	fill(all, api.Loaded{Name: "spoilt"})
}

func fill[T any](list []T, with T) {
	list = list[:cap(list)]
	for i := range list {
		list[i] = with
	}
}

// P0.3: no call changes or keeps anything of its arguments, not even behind their
// ends.
func TestArgumentsAreLeft(t *testing.T) {
	files := append(tree(rich), tree("etc/z.service\nno path\nlib/c.service")...)
	units := append(slices.Clone(richUnits), "more", "and more")
	filesBefore, unitsBefore := slices.Clone(files), slices.Clone(units)
	n, k := len(files)-3, len(units)-2
	all := load.All(files[:n], units[:k])
	one := load.One(files[:n], "a2.service")
	load.All(files, units)
	load.One(files, "a2.service")
	if !slices.Equal(files, filesBefore) || !slices.Equal(units, unitsBefore) {
		t.Errorf("the files are now %s, the units %q", show(files), units)
	}
	allBefore, oneBefore := flat(all), flat(one)
	fill(files, api.File{Path: "spoilt", Text: "spoilt", Link: "spoilt"})
	fill(units, "spoilt")
	if flat(all) != allBefore || flat(one) != oneBefore {
		t.Errorf("now %+v, %+v", all, one)
	}
	checkRich(t, filesBefore[:n])
}

// P0.3: what a caller writes into one answer changes neither another one nor the
// files, nor what any call answers. No two lists of one answer share anything.
func TestListsAreNew(t *testing.T) {
	files := tree(rich)
	before := slices.Clone(files)
	units := slices.Clone(richUnits)
	call := func() []api.Loaded {
		return append(load.All(files, units), load.One(files, "a.service"), load.One(files, "l.service"))
	}
	first, second := call(), call()
	want := flat(second)
	for i := range second {
		others := slices.Concat(second[:i], second[i+1:])
		copied := flat(others)
		spoil(slices.Clone(first)[i : i+1])
		if flat(others) != copied || flat(second) != want {
			t.Errorf("now %+v", second)
		}
		one := call()
		rest := flat(slices.Concat(one[:i], one[i+1:]))
		spoil(one[i : i+1 : i+1])
		if flat(slices.Concat(one[:i], one[i+1:])) != rest {
			t.Errorf("with the unit %d, others are changed: %+v", i, one)
		}
	}
	spoil(load.All(files, units))
	if !slices.Equal(files, before) || !slices.Equal(units, richUnits) {
		t.Errorf("the files are now %s, the units %q", show(files), units)
	}
	checkRich(t, files)
}

// P0.3: the lists of one unit share nothing.
func TestListsOfOneUnit(t *testing.T) {
	const names = "b.target c.target d.target e.target f.target"
	text := "lib/a.service : Sockets=" + names + " | [Unit] | Wants=" + names + " | [Install] | WantedBy=" + names + " | RequiredBy=" + names + " | Also=" + names
	for name := range strings.FieldsSeq(names) {
		text += "\nlib/a.service.wants/" + name + " > x.target\nlib/a.service.requires/" + name + " > x.target"
	}
	files := tree(text)
	lists := func(l *api.Loaded) []*[]string {
		return []*[]string{&l.Wants, &l.Requires, &l.U.Sockets, &l.U.WantedBy, &l.U.RequiredBy, &l.U.Also}
	}
	for i := range 6 {
		one := load.One(files, "a.service")
		for _, l := range []api.Loaded{one, load.All(files, []string{"a.service"})[0]} {
			fill(*lists(&l)[i], "spoilt")
			for j, list := range lists(&l) {
				if j != i && strings.Join(*list, " ") != names {
					t.Errorf("with list %d, list %d is changed: %q", i, j, *list)
				}
			}
			checkText(t, "Rels", relsOf(l.U), "wants:b.target wants:c.target wants:d.target wants:e.target wants:f.target")
		}
	}
}

// P0.4: nil and an empty list are the same.
func TestNilAndEmpty(t *testing.T) {
	for _, files := range [][]api.File{nil, {}, tree(rich)[:0]} {
		checkOne(t, files, "a.service", missing("a.service"))
		checkOne(t, files, "", bad("", "", api.ErrName, 0))
		for _, units := range [][]string{nil, {}, richUnits[:0]} {
			if all := load.All(files, units); len(all) != 0 {
				t.Errorf("%+v", all)
			}
			checkText(t, "names", namesOf(load.All(tree(rich), units)), "sysinit.target")
		}
		checkText(t, "names", namesOf(load.All(files, richUnits)), "a2.service m.service odd.service r.socket u.timer x")
	}
}

// P0.5: a call answers the same whatever was called before it or is called beside
// it.
func TestNothingIsKept(t *testing.T) {
	files, other := tree(rich), tree("lib/a.service = x\nlib/s.socket = [Socket] | ListenStream=9\netc/l.service > a.service\nlib/shutdown.target")
	var group sync.WaitGroup
	for range 8 {
		group.Go(func() {
			for range 20 {
				checkRich(t, files)
				load.All(other, richUnits)
				load.One(other, "l.service")
				load.All(append(slices.Clone(other), api.File{}), richUnits)
			}
		})
	}
	group.Wait()
}

// P0.7: names are compared byte by byte.
func TestBytesAreCompared(t *testing.T) {
	names := []string{"A.target", "a-.target", "a..target", "a.target", "a:.target", `a\x2d.target`, "a_.target"}
	var text string
	for _, name := range names {
		text += "lib/" + name + " = [Unit] | Wants=" + strings.Join(names, " ") + "\n"
		text += "lib/" + name + ".wants/" + names[0] + " > x.target\nlib/" + name + ".wants/" + names[1] + " > x.target\n"
	}
	for _, l := range load.All(tree(text), names[:1]) {
		if len(l.U.Rels) != len(names)-1 || slices.Contains(l.Wants, l.Name) {
			t.Errorf("%+v", l)
		}
	}
	checkNames(t, text, names[5], strings.Join(names, " "))
}

// P0.1: every call ends, soon enough, also with long arguments and any bytes.
func TestLongArguments(t *testing.T) {
	const many = 1 << 20
	for _, piece := range []string{"x", "/", ".", "@", "\x00", "\xff", "etc/", ".service", "%", "é"} {
		long := strings.Repeat(piece, many)
		checkOne(t, tree(rich)[:1], long, bad(long, "", api.ErrName, 0))
		if all := load.All(nil, []string{long, "a.service", long}); len(all) != 2 {
			t.Errorf("%d", len(all))
		}
		for _, file := range []api.File{{Path: long}, {Path: "etc/a.service", Text: long}, {Path: "etc/a.service", Link: long}} {
			checkOne(t, []api.File{file}, "a.service", bad("a.service", "", api.ErrForm, 0))
		}
	}
	for _, files := range [][]api.File{make([]api.File, many), numbered(many), slices.Repeat(tree("etc/a.service"), many)} {
		if l := load.One(files, "a.service"); !same(l, bad("a.service", "", api.ErrForm, 0)) {
			t.Errorf("%+v", l)
		}
		checkText(t, "names", namesOf(load.All(files, richUnits[:1])), "shutdown.target sysinit.target u.timer")
	}
	// Many names, of one unit and of many.
	if all := load.All(tree(rich), slices.Repeat([]string{"a2.service", "l.service"}, many)); len(all) != 8 {
		t.Errorf("%q", namesOf(all))
	}
	if all := load.All(tree(rich), fillers(many)); len(all) != 64 || all[0].Name != "filler0.timer" {
		t.Errorf("%q", namesOf(all))
	}
}

// As many files as there may be, each as long as it may be, all of them of each of
// as many units as are loaded.
func TestMuchToLoad(t *testing.T) {
	var files []api.File
	for i := range 120 {
		path := "lib/t@.service"
		text := "[Service]\nExecStart=/x\n"
		if i > 0 {
			path += ".d/" + strconv.Itoa(i) + ".conf"
			text = "[Unit]\n" + strings.Repeat("Wants=\nWants="+strings.Repeat("t@"+strconv.Itoa(i)+".service ", 20)+"\n", 50)
		}
		files = append(files, api.File{Path: path, Text: text + strings.Repeat("#", 20000-len(text)-1) + "\n"})
	}
	var units []string
	for i := range 70 {
		units = append(units, "t@"+strconv.Itoa(100+i)+".service")
	}
	all := load.All(files, units)
	if len(all) != 64 || all[0].State != api.LLoaded || relsOf(all[0].U) != "wants:t@99.service" {
		t.Errorf("%d units, the first one %+v", len(all), all[0])
	}
}
