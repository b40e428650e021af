package unit_test

import (
	"slices"
	"strings"
	"testing"

	"matins/api"
	"matins/unit"
)

// linesOf makes lines of a text that has a section, a blank, a key, = and a
// value in each line. They are numbered from 1.
func linesOf(text string) []api.Line {
	var l []api.Line
	if text == "" {
		return nil
	}
	for i, line := range strings.Split(text, "\n") {
		section, line, _ := strings.Cut(line, " ")
		key, value, _ := strings.Cut(line, "=")
		l = append(l, api.Line{Section: section, Key: key, Value: value, At: i + 1})
	}
	return l
}

func checkMake(t *testing.T, name string, l []api.Line, want api.Unit) {
	t.Helper()
	got, fault := unit.Make(name, l)
	if fault != (api.Fault{}) || !alike(got, want) {
		t.Errorf("Make(%q, %.1000v) = %+v, %+v, want %+v", name, l[:min(len(l), 30)], got, fault, want)
	}
}

// checkFault checks that lines have a fault.
func checkFault(t *testing.T, name string, l []api.Line, err api.Errno, at int) {
	t.Helper()
	got, fault := unit.Make(name, l)
	if fault != (api.Fault{Code: err, At: at}) || !alike(got, api.Unit{}) {
		t.Errorf("Make(%.100q, %.1000v) = %+v, %+v, want error %d in line %d and the zero unit", name, l[:min(len(l), 30)], got, fault, err, at)
	}
}

// sound is a line without which a unit of a kind is not sound, and what it does.
var sound = map[int]struct {
	text   string
	effect func(*api.Unit)
}{
	api.KService: {"Service ExecStart=/a", func(u *api.Unit) { u.Start = []api.Exec{{Words: []string{"/a"}}} }},
	api.KSocket:  {"Socket ListenStream=80", func(u *api.Unit) { u.Ports = []int{80} }},
	api.KTimer:   {"Timer OnBootSec=5", func(u *api.Unit) { u.Boot = []int{5} }},
	api.KTarget:  {"Unit Description=", func(*api.Unit) {}},
}

// checkEffect checks what the lines of a text do to a unit of a kind.
func checkEffect(t *testing.T, kind int, text string, effect func(*api.Unit)) {
	t.Helper()
	checkEffectOn(t, nameOf[kind], kind, text, effect)
}

func checkEffectOn(t *testing.T, name string, kind int, text string, effect func(*api.Unit)) {
	t.Helper()
	want := unit.New(name)
	sound[kind].effect(&want)
	effect(&want)
	checkMake(t, name, linesOf(sound[kind].text+"\n"+text), want)
}

// checkError checks that the last line of a text has a fault.
func checkError(t *testing.T, kind int, text string, err api.Errno) {
	t.Helper()
	l := linesOf(sound[kind].text + "\n" + text)
	checkFault(t, nameOf[kind], l, err, len(l))
}

// P10.2: names

func TestNamesOfNoUnit(t *testing.T) {
	templates := []string{"a@.service", "a@.socket", "a@.timer", "a@.target", "a.b@.service", strings.Repeat("x", 51) + "@.service"}
	for _, s := range slices.Concat(noNames, templates) {
		for _, text := range []string{"", "Service ExecStart=/a", "Service ExecStart=%q", "None None=", "Unit Requires=x", "Unit Requires=x.service", "Socket ListenStream=80", "Timer OnBootSec=5", "Unit Description=%n"} {
			checkFault(t, s, linesOf(text), api.ErrName, 0)
		}
	}
}

func TestNamesOfUnits(t *testing.T) {
	for kind, name := range nameOf {
		suffix := strings.TrimPrefix(name, "a")
		for _, body := range []string{"a", "a@b", "a@.", ".", "a.service", "-", strings.Repeat("x", 60-len(suffix)), "x@" + strings.Repeat("y", 58-len(suffix))} {
			checkEffectOn(t, body+suffix, kind, "Unit Description=", func(*api.Unit) {})
		}
	}
}

// Make begins with what New returns.
func TestWithoutLines(t *testing.T) {
	checkMake(t, "a.target", nil, unit.New("a.target"))
	checkMake(t, "a@b.target", []api.Line{}, unit.New("a@b.target"))
	for kind := range nameOf {
		checkEffect(t, kind, "Unit Description=", func(*api.Unit) {})
	}
}

// P10.2: the effect of each key

func TestTexts(t *testing.T) {
	values := []string{"x", "two  words", " ", "", "-x", "'", `\`, "=", "yes", "\x00\x01\x7f\xff", "é", "#", strings.Repeat("x", 30000)}
	for _, value := range values {
		for kind := range nameOf {
			checkEffect(t, kind, "Unit Description="+value, func(u *api.Unit) { u.Desc = value })
			checkEffect(t, kind, "Install DefaultInstance="+value, func(u *api.Unit) { u.Instance = value })
			checkEffect(t, kind, "Unit Description=old\nInstall DefaultInstance=old\nUnit Description="+value+"\nInstall DefaultInstance="+value, func(u *api.Unit) { u.Desc, u.Instance = value, value })
		}
		checkEffect(t, api.KSocket, "Socket FileDescriptorName="+value, func(u *api.Unit) { u.FdName = value })
		checkEffect(t, api.KSocket, "Socket FileDescriptorName=old\nSocket FileDescriptorName="+value, func(u *api.Unit) { u.FdName = value })
	}
}

func TestBools(t *testing.T) {
	for _, x := range []struct {
		value string
		is    bool
	}{{"yes", true}, {"true", true}, {"1", true}, {"no", false}, {"false", false}, {"0", false}} {
		for _, before := range []string{"yes", "0"} {
			for kind := range nameOf {
				key := "Unit DefaultDependencies="
				checkEffect(t, kind, key+x.value, func(u *api.Unit) { u.Default = x.is })
				checkEffect(t, kind, key+before+"\n"+key+x.value, func(u *api.Unit) { u.Default = x.is })
			}
			key := "Service RemainAfterExit="
			checkEffect(t, api.KService, key+x.value, func(u *api.Unit) { u.Remain = x.is })
			checkEffect(t, api.KService, key+before+"\n"+key+x.value, func(u *api.Unit) { u.Remain = x.is })
			key = "Timer Persistent="
			checkEffect(t, api.KTimer, key+x.value, func(u *api.Unit) { u.Persistent = x.is })
			checkEffect(t, api.KTimer, key+before+"\n"+key+x.value, func(u *api.Unit) { u.Persistent = x.is })
		}
	}
}

func TestNumbers(t *testing.T) {
	for value, n := range map[string]int{"0": 0, "1": 1, "3": 3, "00007": 7, "010": 10, "16": 16, "65535": 65535} {
		for kind := range nameOf {
			checkEffect(t, kind, "Unit StartLimitBurst="+value, func(u *api.Unit) { u.Burst = n })
			checkEffect(t, kind, "Unit StartLimitBurst=9\nUnit StartLimitBurst="+value, func(u *api.Unit) { u.Burst = n })
		}
		checkEffect(t, api.KSocket, "Socket Backlog="+value, func(u *api.Unit) { u.Backlog = n })
		checkEffect(t, api.KSocket, "Socket Backlog=9\nSocket Backlog="+value, func(u *api.Unit) { u.Backlog = n })
	}
}

// The spans that some values denote.
var spans = map[string]int{"0": 0, "5": 5, "1min": 60, " 1h  30s ": 3630, "2w": 1209600, "infinity": 1 << 40, "6311433600": 6311433600, "0000000007": 7}

func TestSpans(t *testing.T) {
	for value, n := range spans {
		for kind := range nameOf {
			checkEffect(t, kind, "Unit StartLimitIntervalSec="+value, func(u *api.Unit) { u.Every = n })
		}
		for key, effect := range map[string]func(*api.Unit){"RestartSec": func(u *api.Unit) { u.Pause = n }, "TimeoutStartSec": func(u *api.Unit) { u.Up = n }, "TimeoutStopSec": func(u *api.Unit) { u.Down = n }} {
			checkEffect(t, api.KService, "Service "+key+"="+value, effect)
			checkEffect(t, api.KService, "Service "+key+"=9\nService "+key+"="+value, effect)
		}
	}
}

func TestTypes(t *testing.T) {
	for _, before := range []string{"simple", "oneshot", "notify"} {
		for value, kind := range map[string]int{"simple": 1, "oneshot": 2, "notify": 3} {
			checkEffect(t, api.KService, "Service Type="+value, func(u *api.Unit) { u.Type = kind })
			checkEffect(t, api.KService, "Service Type="+before+"\nService Type="+value, func(u *api.Unit) { u.Type = kind })
		}
	}
}

func TestRestarts(t *testing.T) {
	for _, before := range []string{"no", "always"} {
		for value, how := range map[string]int{"no": 1, "on-success": 2, "on-failure": 3, "on-abnormal": 4, "always": 5} {
			checkEffect(t, api.KService, "Service Restart="+value, func(u *api.Unit) { u.Restart = how })
			checkEffect(t, api.KService, "Service Restart="+before+"\nService Restart="+value, func(u *api.Unit) { u.Restart = how })
		}
	}
}

// The keys of relations, by their kinds less 1.
var relations = strings.Fields("Requires Wants Requisite BindsTo PartOf Conflicts Before After OnFailure")

func TestRelations(t *testing.T) {
	for i, key := range relations {
		is, other := i+1, (i+1)%9+1
		key, otherKey := "Unit "+key+"=", "Unit "+relations[(i+1)%9]+"="
		rel := func(name string) api.Rel { return api.Rel{Kind: is, Name: name} }
		otherRel := func(name string) api.Rel { return api.Rel{Kind: other, Name: name} }
		for kind, own := range nameOf {
			check := func(text string, want ...api.Rel) {
				t.Helper()
				checkEffect(t, kind, text, func(u *api.Unit) { u.Rels = want })
			}
			check(key+"b.service", rel("b.service"))
			check(key+"  c.timer  b@x.socket ", rel("c.timer"), rel("b@x.socket"))
			check(key+"c.timer b.service", rel("c.timer"), rel("b.service"))
			check(key+"c.timer\n"+otherKey+"c.timer\n"+key+"b.service", rel("c.timer"), otherRel("c.timer"), rel("b.service"))
			check(key+"c.timer b.service c.timer\n"+key+"d.service b.service c.timer", rel("c.timer"), rel("b.service"), rel("d.service"))
			check(key + own)
			check(key+own+" b.service "+own+"\n"+otherKey+own, rel("b.service"))
			check(key)
			check(key + "b.service c.service\n" + key)
			check(key+"b.service\n"+otherKey+"b.service\n"+key+"c.service\n"+key, otherRel("b.service"))
			check(key+"b.service\n"+key+"\n"+otherKey+"b.service\n"+key+"c.service b.service", otherRel("b.service"), rel("c.service"), rel("b.service"))
		}
	}
}

// The own name is that of the unit itself, and no other one of its prefix.
func TestOwnNames(t *testing.T) {
	l := linesOf("Unit Description=\nUnit After=a@b.target a@c.target a@b.target a@b.service A@b.target a@b.target.target")
	want := unit.New("a@b.target")
	want.Rels = []api.Rel{{Kind: api.RAfter, Name: "a@c.target"}, {Kind: api.RAfter, Name: "a@b.service"}, {Kind: api.RAfter, Name: "A@b.target"}, {Kind: api.RAfter, Name: "a@b.target.target"}}
	checkMake(t, "a@b.target", l, want)
}

func TestAllRelations(t *testing.T) {
	var text []string
	var want []api.Rel
	for i := range 9 {
		i = (i * 5) % 9
		text = append(text, "Unit "+relations[i]+"=x.service y.target")
		want = append(want, api.Rel{Kind: i + 1, Name: "x.service"}, api.Rel{Kind: i + 1, Name: "y.target"})
	}
	for i, key := range relations {
		all := strings.Join(text, "\n")
		checkEffect(t, api.KTarget, all, func(u *api.Unit) { u.Rels = want })
		isOf := func(r api.Rel) bool { return r.Kind == i+1 }
		checkEffect(t, api.KTarget, all+"\nUnit "+key+"=", func(u *api.Unit) { u.Rels = slices.DeleteFunc(slices.Clone(want), isOf) })
	}
}

// The commands of a unit, by their keys.
var commandLists = map[string]func(*api.Unit) *[]api.Exec{
	"ExecStartPre":  func(u *api.Unit) *[]api.Exec { return &u.Pre },
	"ExecStart":     func(u *api.Unit) *[]api.Exec { return &u.Start },
	"ExecStartPost": func(u *api.Unit) *[]api.Exec { return &u.Post },
	"ExecStop":      func(u *api.Unit) *[]api.Exec { return &u.Stop },
	"ExecReload":    func(u *api.Unit) *[]api.Exec { return &u.Reload },
}

// checkCommands checks the commands that the values of a key yield, in a unit
// that has an empty list of them before.
func checkCommands(t *testing.T, key string, values []string, want ...api.Exec) {
	t.Helper()
	text := "Service Type=oneshot\nService " + key + "="
	for _, value := range values {
		text += "\nService " + key + "=" + value
	}
	checkEffect(t, api.KService, text, func(u *api.Unit) {
		u.Type = api.TOneshot
		*commandLists[key](u) = want
	})
}

func TestCommands(t *testing.T) {
	for key := range commandLists {
		for _, x := range []struct {
			value string
			dash  bool
			words []string
		}{
			{"/a", false, []string{"/a"}}, {"-/a", true, []string{"/a"}}, {"- /a", true, []string{"/a"}}, {"--a", true, []string{"-a"}}, {"/a -b", false, []string{"/a", "-b"}}, {"a-b", false, []string{"a-b"}},
			{" -/a", false, []string{"-/a"}}, {"'-/a'", false, []string{"-/a"}}, {`"-"/a`, false, []string{"-/a"}}, {`\x2d/a`, false, []string{"-/a"}}, {"-'-a'", true, []string{"-a"}},
			{"  /a\t\t'b c'  \"\" d\\s\\x01", false, []string{"/a", "b c", "", "d \x01"}}, {`-"b c" '' ''`, true, []string{"b c", "", ""}}, {"$A ${B} $$", false, []string{"$A", "${B}", "$$"}},
			{strings.TrimSpace(strings.Repeat("x ", 32)), false, slices.Repeat([]string{"x"}, 32)},
		} {
			command := api.Exec{Dash: x.dash, Words: x.words}
			checkCommands(t, key, []string{x.value}, command)
			checkCommands(t, key, []string{x.value, "/b c", x.value}, command, api.Exec{Words: []string{"/b", "c"}}, command)
			checkCommands(t, key, []string{"/b c", "", x.value}, command)
		}
		checkCommands(t, key, []string{"/c", "/b", "/c", "-/b"}, api.Exec{Words: []string{"/c"}}, api.Exec{Words: []string{"/b"}}, api.Exec{Words: []string{"/c"}}, api.Exec{Dash: true, Words: []string{"/b"}})
		if key != "ExecStart" {
			checkCommands(t, key, nil)
			checkCommands(t, key, []string{"/b", ""})
		}
	}
}

func TestEachCommandHasItsList(t *testing.T) {
	checkEffect(t, api.KService, "Service ExecStop=/s\nService ExecReload=/r\nService ExecStartPre=/p\nService ExecStartPost=/q", func(u *api.Unit) {
		u.Pre, u.Post, u.Stop, u.Reload = []api.Exec{{Words: []string{"/p"}}}, []api.Exec{{Words: []string{"/q"}}}, []api.Exec{{Words: []string{"/s"}}}, []api.Exec{{Words: []string{"/r"}}}
	})
}

func TestEnvironment(t *testing.T) {
	for _, x := range []struct {
		text string
		want []api.Pair
	}{
		{"A=1", []api.Pair{{Name: "A", Value: "1"}}},
		{"A=", []api.Pair{{Name: "A"}}},
		{"A=b=c=", []api.Pair{{Name: "A", Value: "b=c="}}},
		{"_a9=1 B=2", []api.Pair{{Name: "_a9", Value: "1"}, {Name: "B", Value: "2"}}},
		{"'A=1 2'\t\"B= \" C\\x3dx", []api.Pair{{Name: "A", Value: "1 2"}, {Name: "B", Value: " "}, {Name: "C", Value: "x"}}},
		{"A=1 B=2\nB=3 C=4", []api.Pair{{Name: "A", Value: "1"}, {Name: "B", Value: "3"}, {Name: "C", Value: "4"}}},
		{"A=1 B=2\nA=3", []api.Pair{{Name: "B", Value: "2"}, {Name: "A", Value: "3"}}},
		{"A=1 B=2 A=3", []api.Pair{{Name: "B", Value: "2"}, {Name: "A", Value: "3"}}},
		{"A=1 B=2 A=3 A=1", []api.Pair{{Name: "B", Value: "2"}, {Name: "A", Value: "1"}}},
		{"A=1 B=2\nA=1", []api.Pair{{Name: "B", Value: "2"}, {Name: "A", Value: "1"}}},
		{"A=1 a=2\nAA=3", []api.Pair{{Name: "A", Value: "1"}, {Name: "a", Value: "2"}, {Name: "AA", Value: "3"}}},
		{"", nil},
		{"A=1\n", nil},
		{"A=1\n\nB=2", []api.Pair{{Name: "B", Value: "2"}}},
		{"A=1 B=2\n\nB=2 A=1", []api.Pair{{Name: "B", Value: "2"}, {Name: "A", Value: "1"}}},
	} {
		checkEffect(t, api.KService, "Service Environment="+strings.ReplaceAll(x.text, "\n", "\nService Environment="), func(u *api.Unit) { u.Env = x.want })
	}
}

// The lists of names, by their sections and keys.
var nameLists = map[string]func(*api.Unit) *[]string{
	"Service Sockets":    func(u *api.Unit) *[]string { return &u.Sockets },
	"Install WantedBy":   func(u *api.Unit) *[]string { return &u.WantedBy },
	"Install RequiredBy": func(u *api.Unit) *[]string { return &u.RequiredBy },
	"Install Alias":      func(u *api.Unit) *[]string { return &u.Alias },
	"Install Also":       func(u *api.Unit) *[]string { return &u.Also },
}

func TestListsOfNames(t *testing.T) {
	for key, list := range nameLists {
		for kind, own := range nameOf {
			if strings.HasPrefix(key, "Service") && kind != api.KService {
				continue
			}
			check := func(text string, want ...string) {
				t.Helper()
				text = key + "=" + strings.ReplaceAll(text, "\n", "\n"+key+"=")
				checkEffect(t, kind, text, func(u *api.Unit) { *list(u) = want })
			}
			check("b.socket", "b.socket")
			check("  c.socket  b@x.target ", "c.socket", "b@x.target")
			check("c.socket b.socket c.socket", "c.socket", "b.socket")
			check("c.socket\nb.socket c.socket\nd.socket\nb.socket", "c.socket", "b.socket", "d.socket")
			check("b.socket B.socket bb.socket", "b.socket", "B.socket", "bb.socket")
			check(own+" b.target "+own, own, "b.target")
			check("")
			check("b.socket c.socket\n")
			check("b.socket c.socket\n\nc.socket\nb.socket", "c.socket", "b.socket")
			check("%n", own)
		}
	}
}

func TestListsOfNumbers(t *testing.T) {
	for _, x := range []struct {
		text string
		want []int
	}{
		{"7", []int{7}}, {"65535", []int{65535}}, {"  9  7 ", []int{9, 7}}, {"9 7 9", []int{9, 7}}, {"9\n7 9\n8\n7", []int{9, 7, 8}}, {"3 03\n00003 30", []int{3, 30}}, {"7 8\n\n8 7", []int{8, 7}}, {"1\n\n\n2\n3", []int{2, 3}},
	} {
		checkEffect(t, api.KService, "Service SuccessExitStatus="+strings.ReplaceAll(x.text, "\n", "\nService SuccessExitStatus="), func(u *api.Unit) { u.Success = x.want })
		checkEffect(t, api.KSocket, "Socket ListenStream=\nSocket ListenStream="+strings.ReplaceAll(x.text, "\n", "\nSocket ListenStream="), func(u *api.Unit) { u.Ports = x.want })
	}
	checkEffect(t, api.KService, "Service SuccessExitStatus=0 1 00", func(u *api.Unit) { u.Success = []int{0, 1} })
	checkEffect(t, api.KService, "Service SuccessExitStatus=0 1\nService SuccessExitStatus=", func(*api.Unit) {})
	checkEffect(t, api.KSocket, "Socket ListenStream=81 80", func(u *api.Unit) { u.Ports = []int{80, 81} })
}

func TestUnits(t *testing.T) {
	for _, value := range []string{"b.service", "b@c.service", "a.service"} {
		checkEffect(t, api.KSocket, "Socket Service="+value, func(u *api.Unit) { u.Unit = value })
		checkEffect(t, api.KSocket, "Socket Service=x.service\nSocket Service="+value, func(u *api.Unit) { u.Unit = value })
	}
	for _, value := range []string{"b.service", "b@c.service", "b.socket", "b.timer", "b@c.target", "a.timer"} {
		checkEffect(t, api.KTimer, "Timer Unit="+value, func(u *api.Unit) { u.Unit = value })
		checkEffect(t, api.KTimer, "Timer Unit=x.service\nTimer Unit="+value, func(u *api.Unit) { u.Unit = value })
	}
}

// The lists of durations, by their keys.
var spanLists = map[string]func(*api.Unit) *[]int{
	"OnBootSec":         func(u *api.Unit) *[]int { return &u.Boot },
	"OnActiveSec":       func(u *api.Unit) *[]int { return &u.Active },
	"OnUnitInactiveSec": func(u *api.Unit) *[]int { return &u.Idle },
}

func TestListsOfDurations(t *testing.T) {
	for key, list := range spanLists {
		check := func(text string, want ...int) {
			t.Helper()
			text = "Timer Persistent=no\nTimer OnBootSec=\nTimer OnCalendar=daily\nTimer " + key + "=" + strings.ReplaceAll(text, "\n", "\nTimer "+key+"=")
			checkEffect(t, api.KTimer, text, func(u *api.Unit) {
				u.Boot, u.Calendar = nil, []string{"daily"}
				*list(u) = want
			})
		}
		for value, n := range spans {
			check(value, n)
			check("9\n"+value+"\n9\n"+value, 9, n, 9, n)
		}
		check("")
		check("5\n")
		check("5\n6\n\n6\n5", 6, 5)
	}
}

func TestCalendars(t *testing.T) {
	// They are kept as they are written, not in their canonical form.
	for _, value := range []string{"daily", "Mon", "*-*-* 00:00:00", "Mon..Fri 8:30", "2000-01-01", "*:*", "Mon,Mon 1:1"} {
		for _, before := range []string{"daily", "Mon"} {
			checkEffect(t, api.KTimer, "Timer OnCalendar="+value, func(u *api.Unit) { u.Calendar = []string{value} })
			checkEffect(t, api.KTimer, "Timer OnCalendar="+before+"\nTimer OnCalendar="+value+"\nTimer OnCalendar="+value, func(u *api.Unit) { u.Calendar = []string{before, value, value} })
			checkEffect(t, api.KTimer, "Timer OnCalendar="+before+"\nTimer OnCalendar=\nTimer OnCalendar="+value, func(u *api.Unit) { u.Calendar = []string{value} })
		}
	}
	checkEffect(t, api.KTimer, "Timer OnCalendar=daily\nTimer OnCalendar=", func(*api.Unit) {})
}

// P10.2: the specifiers

func TestSpecifiers(t *testing.T) {
	const name = `a-b@x-y\x20z.service`
	check := func(text string, effect func(*api.Unit)) {
		t.Helper()
		checkEffectOn(t, name, api.KService, text, effect)
	}
	check("Unit Description=%n|%N|%p|%i|%I|%%|%%i", func(u *api.Unit) { u.Desc = name + `|a-b@x-y\x20z|a-b|x-y\x20z|x/y z|%|%i` })
	check("Install DefaultInstance=%%n", func(u *api.Unit) { u.Instance = "%n" })
	check("Unit Wants=%p.service %n %N.socket", func(u *api.Unit) {
		u.Rels = []api.Rel{{Kind: api.RWants, Name: "a-b.service"}, {Kind: api.RWants, Name: `a-b@x-y\x20z.socket`}}
	})
	check("Service ExecStop=/b %I '%I' %p", func(u *api.Unit) { u.Stop = []api.Exec{{Words: []string{"/b", "x/y", "z", "x/y z", "a-b"}}} })
	check("Service Environment=A=%i B='%%%I'", func(u *api.Unit) { u.Env = []api.Pair{{Name: "A", Value: "x-y z"}, {Name: "B", Value: "%x/y z"}} })
	check("Service Sockets=%p.socket\nService Sockets=a-b.socket", func(u *api.Unit) { u.Sockets = []string{"a-b.socket"} })
}

// What stands for a specifier is looked at as if it had been written there.
func TestSpecifiersComeFirst(t *testing.T) {
	for _, x := range []struct {
		kind         int
		name, before string
		effect       func(*api.Unit)
	}{
		{api.KService, "yes@5.service", "Unit DefaultDependencies=%p\nService RemainAfterExit=%p\nUnit StartLimitBurst=%i%i\nService RestartSec=%imin\nService SuccessExitStatus=%i 6%i", func(u *api.Unit) {
			u.Remain, u.Burst, u.Pause, u.Success = true, 55, 300, []int{5, 65}
		}},
		{api.KService, "oneshot@always.service", "Service Type=%p\nService Restart=%i", func(u *api.Unit) { u.Type, u.Restart = api.TOneshot, api.WAlways }},
		{api.KService, "a@-.service", "Service ExecStop=%i/x\nService ExecStop=%%i /x", func(u *api.Unit) {
			u.Stop = []api.Exec{{Dash: true, Words: []string{"/x"}}, {Words: []string{"%i", "/x"}}}
		}},
		{api.KSocket, "a@81.socket", "Socket ListenStream=%i\nSocket Backlog=%i\nSocket Service=%p.service\nSocket FileDescriptorName=%n", func(u *api.Unit) {
			u.Ports, u.Backlog, u.Unit, u.FdName = []int{80, 81}, 81, "a.service", "a@81.socket"
		}},
		{api.KTimer, "Mon@7.timer", "Timer OnCalendar=%p %i:%i\nTimer OnBootSec=%i\nTimer Unit=%N.target", func(u *api.Unit) {
			u.Boot, u.Calendar, u.Unit = []int{5, 7}, []string{"Mon 7:7"}, "Mon@7.target"
		}},
		// A value that has become empty empties its list.
		{api.KService, "a.service", "Unit After=x.service\nUnit Wants=x.service\nUnit Wants=%i\nService ExecStop=/x\nService ExecStop=%I\nService Environment=A=1\nService Environment=%i%I\nService Sockets=x.socket\nService Sockets=%i\nInstall Also=x.service\nInstall Also=%i\nService SuccessExitStatus=3\nService SuccessExitStatus=%i\nUnit Description=x\nUnit Description=%i", func(u *api.Unit) {
			u.Rels = []api.Rel{{Kind: api.RAfter, Name: "x.service"}}
		}},
	} {
		checkEffectOn(t, x.name, x.kind, x.before, x.effect)
	}
}

// Sections and keys have no specifiers.
func TestSpecifiersOutsideOfValues(t *testing.T) {
	for _, l := range [][]api.Line{{{Section: "%p", Key: "Wants", At: 1}}, {{Section: "%%", Key: "%q", At: 1}}} {
		checkFault(t, "Unit.target", l, api.ErrSection, 1)
	}
	checkFault(t, "Wants.target", linesOf("Unit %p=x.service"), api.ErrKey, 1)
	checkFault(t, "Wants.target", linesOf("Unit %q=x.service"), api.ErrKey, 1)
}
