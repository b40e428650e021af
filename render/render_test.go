package render_test

import (
	"slices"
	"strconv"
	"strings"
	"testing"

	"matins/api"
	"matins/lines"
	"matins/render"
	"matins/unit"
)

// The names that the tests use for a unit of each kind.
var nameOf = map[int]string{api.KService: "a.service", api.KSocket: "a.socket", api.KTimer: "a.timer", api.KTarget: "a.target"}

// sound returns a unit of a kind that has little more than it can't be without.
// The service may have any number of commands.
func sound(kind int) api.Unit {
	u := unit.New(nameOf[kind])
	switch kind {
	case api.KService:
		u.Type, u.Start = api.TOneshot, commands("/a")
	case api.KSocket:
		u.Ports = []int{80}
	case api.KTimer:
		u.Boot = []int{5}
	}
	return u
}

// with returns the sound unit of a kind with a change.
func with(kind int, change func(*api.Unit)) api.Unit {
	u := sound(kind)
	change(&u)
	return u
}

// commands makes a list of commands without arguments.
func commands(paths ...string) []api.Exec {
	var l []api.Exec
	for _, path := range paths {
		l = append(l, api.Exec{Words: []string{path}})
	}
	return l
}

// decode returns the unit of a name that a unit file describes.
func decode(t *testing.T, name, text string) api.Unit {
	t.Helper()
	l, fault := lines.Parse(text)
	if fault != (api.Fault{}) {
		t.Errorf("Parse(%q) has fault %+v", text, fault)
	}
	u, fault := unit.Make(name, l)
	if fault != (api.Fault{}) {
		t.Errorf("Make(%q, %+v) has fault %+v", name, l, fault)
	}
	return u
}

// checkText checks that a unit is encoded, as a text, and that it can be had back
// from that.
func checkText(t *testing.T, u api.Unit, want string) {
	t.Helper()
	if got := render.Text(u); got != want {
		t.Errorf("Text(%+v) = %q, want %q", u, got, want)
		return
	}
	l, _ := lines.Parse(want)
	if got := render.Lines(u); !slices.Equal(got, l) {
		t.Errorf("Lines(%+v) = %+v, want %+v", u, got, l)
	}
	if !render.May(u) {
		t.Errorf("%+v may not be encoded", u)
	}
	if again := decode(t, u.Name, want); !unit.Same(again, u) {
		t.Errorf("%+v is decoded from the text of %+v", again, u)
	}
}

// checkRefused checks that a unit can't be encoded.
func checkRefused(t *testing.T, u api.Unit) {
	t.Helper()
	if render.May(u) {
		t.Errorf("%.3000s may be encoded", printed(u))
	}
	if l := render.Lines(u); len(l) != 0 {
		t.Errorf("Lines(%.3000s) = %.3000s", printed(u), printed(l))
	}
	if s := render.Text(u); s != "" {
		t.Errorf("Text(%.3000s) = %.3000q", printed(u), s)
	}
}

// checkValues checks that a sound unit of a kind with a change has lines of a key
// with the wanted values, and no other lines than without the change.
func checkValues(t *testing.T, kind int, key string, change func(*api.Unit), want ...string) {
	t.Helper()
	u := with(kind, change)
	values, rest := split(render.Lines(u), key)
	_, before := split(render.Lines(sound(kind)), key)
	if !slices.Equal(values, want) || !slices.Equal(rest, before) {
		t.Errorf("the lines of %.3000s are %.3000q for %s, want %.3000q, and for others %.3000q, want %.3000q", printed(u), values, key, want, rest, before)
	}
	checkText(t, u, lines.Print(render.Lines(u)))
}

// split returns the values of the lines with a section and a key, and the other
// lines.
func split(l []api.Line, key string) (values, rest []string) {
	for _, line := range l {
		if line.Section+" "+line.Key == key {
			values = append(values, line.Value)
		} else {
			rest = append(rest, line.Section+" "+line.Key+"="+line.Value)
		}
	}
	return values, rest
}

// What differs from the unit without lines, and nothing else, has a line.

func TestLittle(t *testing.T) {
	checkText(t, sound(api.KService), "[Service]\nType=oneshot\nExecStart=/a\n")
	checkText(t, sound(api.KSocket), "[Socket]\nListenStream=80\n")
	checkText(t, sound(api.KTimer), "[Timer]\nOnBootSec=5s\n")
	checkText(t, sound(api.KTarget), "")
	checkText(t, unit.New("a@b.target"), "")
	checkText(t, unit.New("a.socket.target"), "")
	simple := unit.New("a@-x.service")
	simple.Start = commands("/a")
	checkText(t, simple, "[Service]\nExecStart=/a\n")
}

// The order is that of the keys, with all relations at the position of the first
// key of relations, in their own order.

const unitText = `[Unit]
Description=d
DefaultDependencies=no
OnFailure=b.target
After=c.target
Requires=c.target
After=b.target
Wants=d.target
Requires=b.target
StartLimitIntervalSec=1min
StartLimitBurst=0
`

const installText = `
[Install]
WantedBy=d.target
WantedBy=c.target
RequiredBy=d.target
RequiredBy=b.target
Alias=d.target
Alias=e.target
Also=d.target
Also=a.target
DefaultInstance=i
`

// setCommon changes all that units of each kind have.
func setCommon(u *api.Unit) {
	u.Desc, u.Default, u.Every, u.Burst, u.Instance = "d", false, 60, 0, "i"
	u.Rels = []api.Rel{{Kind: api.RFailure, Name: "b.target"}, {Kind: api.RAfter, Name: "c.target"}, {Kind: api.RRequires, Name: "c.target"}, {Kind: api.RAfter, Name: "b.target"}, {Kind: api.RWants, Name: "d.target"}, {Kind: api.RRequires, Name: "b.target"}}
	u.WantedBy, u.RequiredBy, u.Alias, u.Also = []string{"d.target", "c.target"}, []string{"d.target", "b.target"}, []string{"d.target", "e.target"}, []string{"d.target", "a.target"}
}

func TestWholeService(t *testing.T) {
	u := unit.New("s@i.service")
	setCommon(&u)
	u.Type, u.Remain, u.Restart, u.Pause, u.Up, u.Down = api.TOneshot, true, api.WAlways, 1, 2, api.Forever
	u.Pre, u.Start, u.Post, u.Stop, u.Reload = commands("/z", "/y"), commands("/x", "/w"), commands("/v", "/u"), commands("/t", "/s"), commands("/r", "/q", "/r")
	u.Success, u.Env, u.Sockets = []int{3, 1, 2}, []api.Pair{{Name: "B", Value: "2"}, {Name: "A", Value: "1"}}, []string{"b.socket", "a.socket"}
	checkText(t, u, unitText+`
[Service]
Type=oneshot
ExecStartPre=/z
ExecStartPre=/y
ExecStart=/x
ExecStart=/w
ExecStartPost=/v
ExecStartPost=/u
ExecStop=/t
ExecStop=/s
ExecReload=/r
ExecReload=/q
ExecReload=/r
RemainAfterExit=yes
Restart=always
RestartSec=1s
TimeoutStartSec=2s
TimeoutStopSec=infinity
SuccessExitStatus=3
SuccessExitStatus=1
SuccessExitStatus=2
Environment=B=2
Environment=A=1
Sockets=b.socket
Sockets=a.socket
`+installText)
}

func TestWholeSocket(t *testing.T) {
	u := unit.New("s.socket")
	setCommon(&u)
	u.Ports, u.Backlog, u.FdName, u.Unit = []int{443, 80, 8080}, 0, "f", "s.service"
	checkText(t, u, unitText+`
[Socket]
ListenStream=443
ListenStream=80
ListenStream=8080
Backlog=0
FileDescriptorName=f
Service=s.service
`+installText)
}

func TestWholeTimer(t *testing.T) {
	u := unit.New("t.timer")
	setCommon(&u)
	u.Boot, u.Active, u.Idle, u.Calendar, u.Persistent, u.Unit = []int{3, 0}, []int{2, 1, 2}, []int{9, 8}, []string{"weekly", "daily"}, true, "s.target"
	checkText(t, u, unitText+`
[Timer]
OnBootSec=3s
OnBootSec=0
OnActiveSec=2s
OnActiveSec=1s
OnActiveSec=2s
OnUnitInactiveSec=9s
OnUnitInactiveSec=8s
OnCalendar=weekly
OnCalendar=daily
Persistent=yes
Unit=s.target
`+installText)
}

func TestWholeTarget(t *testing.T) {
	u := unit.New("t.target")
	setCommon(&u)
	checkText(t, u, unitText+installText)
}

// relations are the keys of relations, by their kinds less 1.
var relations = []string{"Requires", "Wants", "Requisite", "BindsTo", "PartOf", "Conflicts", "Before", "After", "OnFailure"}

func TestRelations(t *testing.T) {
	for kind := range nameOf {
		for i, key := range relations {
			rel := func(name string) api.Rel { return api.Rel{Kind: i + 1, Name: name} }
			set := func(l ...api.Rel) func(*api.Unit) { return func(u *api.Unit) { u.Rels = l } }
			checkValues(t, kind, "Unit "+key, set(rel("b.service")), "b.service")
			checkValues(t, kind, "Unit "+key, set(rel("c.timer"), rel("b@x.socket"), rel(`a\x20.target`)), "c.timer", "b@x.socket", `a\x20.target`)
			for j, other := range relations {
				if i != j {
					u := with(kind, set(rel("b.service"), api.Rel{Kind: j + 1, Name: "b.service"}, rel("c.service")))
					text := "[Unit]\n" + key + "=b.service\n" + other + "=b.service\n" + key + "=c.service\n"
					if rest := render.Text(sound(kind)); rest != "" {
						text += "\n" + rest
					}
					checkText(t, u, text)
				}
			}
		}
	}
}

// The values

func TestTexts(t *testing.T) {
	for value, want := range map[string]string{
		"x": "x", "two  words": "two  words", "a\tb": "a\tb", "-x": "-x", "'": "'", `"x"`: `"x"`, `\x`: `\x`, `\\x`: `\\x`, "=": "=", "a=b": "a=b", "#": "#", ";": ";", "[Unit]": "[Unit]", "yes": "yes", "0": "0",
		"\x80\xff": "\x80\xff", "é": "é", "!~": "!~", "100%": "100%%", "%n": "%%n", "%": "%%", "%%": "%%%%", "%a%%b%": "%%a%%%%b%%",
	} {
		for kind := range nameOf {
			checkValues(t, kind, "Unit Description", func(u *api.Unit) { u.Desc = value }, want)
			checkValues(t, kind, "Install DefaultInstance", func(u *api.Unit) { u.Instance = value }, want)
		}
		checkValues(t, api.KSocket, "Socket FileDescriptorName", func(u *api.Unit) { u.FdName = value }, want)
	}
}

func TestBools(t *testing.T) {
	for kind := range nameOf {
		checkValues(t, kind, "Unit DefaultDependencies", func(u *api.Unit) { u.Default = false }, "no")
		checkValues(t, kind, "Unit DefaultDependencies", func(u *api.Unit) { u.Default = true })
	}
	checkValues(t, api.KService, "Service RemainAfterExit", func(u *api.Unit) { u.Remain = true }, "yes")
	checkValues(t, api.KService, "Service RemainAfterExit", func(u *api.Unit) { u.Remain = false })
	checkValues(t, api.KTimer, "Timer Persistent", func(u *api.Unit) { u.Persistent = true }, "yes")
	checkValues(t, api.KTimer, "Timer Persistent", func(u *api.Unit) { u.Persistent = false })
}

func TestNumbers(t *testing.T) {
	for _, n := range []int{0, 1, 4, 5, 6, 9, 10, 15, 16, 17, 99, 100, 255, 9999, 10000, 65535} {
		digits := []string{strconv.Itoa(n)}
		for kind := range nameOf {
			burst := digits
			if n == 5 {
				burst = nil
			}
			checkValues(t, kind, "Unit StartLimitBurst", func(u *api.Unit) { u.Burst = n }, burst...)
		}
		backlog := digits
		if n == 16 {
			backlog = nil
		}
		checkValues(t, api.KSocket, "Socket Backlog", func(u *api.Unit) { u.Backlog = n }, backlog...)
		checkValues(t, api.KService, "Service SuccessExitStatus", func(u *api.Unit) { u.Success = []int{n} }, digits...)
		checkValues(t, api.KService, "Service SuccessExitStatus", func(u *api.Unit) { u.Success = []int{77, n, 7} }, "77", digits[0], "7")
		if n > 0 {
			checkValues(t, api.KSocket, "Socket ListenStream", func(u *api.Unit) { u.Ports = []int{n} }, digits...)
			checkValues(t, api.KSocket, "Socket ListenStream", func(u *api.Unit) { u.Ports = []int{77, n, 7} }, "77", digits[0], "7")
		}
	}
}

// spans are durations as they are written.
var spans = map[int]string{0: "0", 1: "1s", 10: "10s", 59: "59s", 60: "1min", 90: "1min 30s", 3600: "1h", 3661: "1h 1min 1s", 86400: "1d", 694861: "8d 1h 1min 1s", 6311433600: "73049d", 6311433599: "73048d 23h 59min 59s", 1 << 40: "infinity"}

func TestSpans(t *testing.T) {
	for n, text := range spans {
		for kind := range nameOf {
			checkSpan(t, kind, "Unit StartLimitIntervalSec", n, 10, func(u *api.Unit) { u.Every = n })
		}
		checkSpan(t, api.KService, "Service RestartSec", n, 0, func(u *api.Unit) { u.Pause = n })
		checkSpan(t, api.KService, "Service TimeoutStartSec", n, 90, func(u *api.Unit) { u.Up = n })
		checkSpan(t, api.KService, "Service TimeoutStopSec", n, 90, func(u *api.Unit) { u.Down = n })
		checkValues(t, api.KTimer, "Timer OnBootSec", func(u *api.Unit) { u.Boot = []int{n} }, text)
		checkValues(t, api.KTimer, "Timer OnBootSec", func(u *api.Unit) { u.Boot = []int{7, n, n, 70} }, "7s", text, text, "1min 10s")
		checkValues(t, api.KTimer, "Timer OnActiveSec", func(u *api.Unit) { u.Active = []int{n} }, text)
		checkValues(t, api.KTimer, "Timer OnActiveSec", func(u *api.Unit) { u.Active = []int{7, n, n, 70} }, "7s", text, text, "1min 10s")
		checkValues(t, api.KTimer, "Timer OnUnitInactiveSec", func(u *api.Unit) { u.Idle = []int{n} }, text)
		checkValues(t, api.KTimer, "Timer OnUnitInactiveSec", func(u *api.Unit) { u.Idle = []int{7, n, n, 70} }, "7s", text, text, "1min 10s")
	}
}

// checkSpan checks the line of one duration, which has none if it is the plain
// one.
func checkSpan(t *testing.T, kind int, key string, n, plain int, change func(*api.Unit)) {
	t.Helper()
	if n == plain {
		checkValues(t, kind, key, change)
	} else {
		checkValues(t, kind, key, change, spans[n])
	}
}

func TestWords(t *testing.T) {
	checkValues(t, api.KService, "Service Type", func(u *api.Unit) { u.Type = api.TSimple })
	checkValues(t, api.KService, "Service Type", func(u *api.Unit) { u.Type = api.TOneshot }, "oneshot")
	checkValues(t, api.KService, "Service Type", func(u *api.Unit) { u.Type = api.TNotify }, "notify")
	checkValues(t, api.KService, "Service Restart", func(u *api.Unit) { u.Restart = api.WNo })
	checkValues(t, api.KService, "Service Restart", func(u *api.Unit) { u.Restart = api.WSuccess }, "on-success")
	checkValues(t, api.KService, "Service Restart", func(u *api.Unit) { u.Restart = api.WFailure }, "on-failure")
	checkValues(t, api.KService, "Service Restart", func(u *api.Unit) { u.Restart = api.WAbnormal }, "on-abnormal")
	checkValues(t, api.KService, "Service Restart", func(u *api.Unit) { u.Restart = api.WAlways }, "always")
}

// commandLists are the lists of commands of a service, by their keys.
var commandLists = map[string]func(u *api.Unit) *[]api.Exec{
	"Service ExecStartPre":  func(u *api.Unit) *[]api.Exec { return &u.Pre },
	"Service ExecStart":     func(u *api.Unit) *[]api.Exec { return &u.Start },
	"Service ExecStartPost": func(u *api.Unit) *[]api.Exec { return &u.Post },
	"Service ExecStop":      func(u *api.Unit) *[]api.Exec { return &u.Stop },
	"Service ExecReload":    func(u *api.Unit) *[]api.Exec { return &u.Reload },
}

func TestCommands(t *testing.T) {
	plain := func(l ...string) api.Exec { return api.Exec{Words: l} }
	dash := func(l ...string) api.Exec { return api.Exec{Dash: true, Words: l} }
	for key, list := range commandLists {
		check := func(l []api.Exec, want ...string) {
			t.Helper()
			checkValues(t, api.KService, key, func(u *api.Unit) { *list(u) = l }, want...)
		}
		check([]api.Exec{plain("/a")}, "/a")
		check([]api.Exec{dash("/a")}, "-/a")
		check([]api.Exec{plain("/a", "b", "c")}, "/a b c")
		check([]api.Exec{plain("-a")}, `"-a"`)
		check([]api.Exec{dash("-a")}, `-"-a"`)
		check([]api.Exec{plain("-")}, `"-"`)
		check([]api.Exec{dash("-")}, `-"-"`)
		check([]api.Exec{plain("--", "-", "--")}, `"--" "-" "--"`)
		check([]api.Exec{plain("a", "")}, `a ""`)
		check([]api.Exec{plain(" ")}, `" "`)
		check([]api.Exec{plain("a b", "c\td")}, `"a b" "c\x09d"`)
		check([]api.Exec{plain(`\`, `a\`, `"`, `'`)}, `"\\" "a\\" "\"" "'"`)
		check([]api.Exec{plain("\n\x01", "\x7f\x80\xff")}, `"\x0a\x01" "\x7f\x80\xff"`)
		check([]api.Exec{plain("$A", "${A}", "#", "=")}, "$A ${A} # =")
		check([]api.Exec{plain("%n", "100%"), dash("%", "% %")}, `%%n 100%%`, `-%% "%% %%"`)
		check([]api.Exec{plain(slices.Repeat([]string{"x"}, 32)...)}, "x"+strings.Repeat(" x", 31))
		check([]api.Exec{plain("/b"), dash("/a"), plain("/b"), plain("/a"), dash("/a")}, "/b", "-/a", "/b", "/a", "-/a")
	}
}

func TestEnvironment(t *testing.T) {
	check := func(l []api.Pair, want ...string) {
		t.Helper()
		checkValues(t, api.KService, "Service Environment", func(u *api.Unit) { u.Env = l }, want...)
	}
	check([]api.Pair{{Name: "A", Value: "x"}}, "A=x")
	check([]api.Pair{{Name: "A", Value: ""}}, "A=")
	check([]api.Pair{{Name: "_a9", Value: "="}}, "_a9==")
	check([]api.Pair{{Name: "A", Value: "-x"}}, "A=-x")
	check([]api.Pair{{Name: "A", Value: "x y"}}, `"A=x y"`)
	check([]api.Pair{{Name: "A", Value: " "}}, `"A= "`)
	check([]api.Pair{{Name: "A", Value: `'"\`}}, `"A='\"\\"`)
	check([]api.Pair{{Name: "A", Value: `\`}}, `"A=\\"`)
	check([]api.Pair{{Name: "A", Value: "\t\n\x01\x7f\x80\xff"}}, `"A=\x09\x0a\x01\x7f\x80\xff"`)
	check([]api.Pair{{Name: "A", Value: "$B ${C} %d %%"}}, `"A=$B ${C} %%d %%%%"`)
	check([]api.Pair{{Name: "B", Value: "1"}, {Name: "A", Value: "2 3"}, {Name: "b", Value: "1"}}, "B=1", `"A=2 3"`, "b=1")
}

func TestNames(t *testing.T) {
	some := []string{"b.target", `c@x\x20y.socket`, "a.service", "B.target"}
	for kind := range nameOf {
		checkValues(t, kind, "Install WantedBy", func(u *api.Unit) { u.WantedBy = some }, some...)
		checkValues(t, kind, "Install RequiredBy", func(u *api.Unit) { u.RequiredBy = some }, some...)
		checkValues(t, kind, "Install Alias", func(u *api.Unit) { u.Alias = some }, some...)
		checkValues(t, kind, "Install Also", func(u *api.Unit) { u.Also = some }, some...)
		// Only among the relations is there none to the unit itself.
		own := nameOf[kind]
		checkValues(t, kind, "Install Also", func(u *api.Unit) { u.Also = []string{own} }, own)
	}
	checkValues(t, api.KService, "Service Sockets", func(u *api.Unit) { u.Sockets = some }, some...)
}

// The field Unit of a socket has another key than that of a timer.
func TestWhatIsStarted(t *testing.T) {
	for _, name := range []string{"b.service", "a.service", "b@c.service", `-\.service`} {
		checkValues(t, api.KSocket, "Socket Service", func(u *api.Unit) { u.Unit = name }, name)
		checkValues(t, api.KTimer, "Timer Unit", func(u *api.Unit) { u.Unit = name }, name)
	}
	for _, name := range []string{"b.target", "a.timer", "b@c.socket"} {
		checkValues(t, api.KTimer, "Timer Unit", func(u *api.Unit) { u.Unit = name }, name)
		checkRefused(t, with(api.KSocket, func(u *api.Unit) { u.Unit = name }))
	}
}

// Calendar expressions are not made canonical.
func TestCalendars(t *testing.T) {
	for _, l := range [][]string{{"daily"}, {"Mon"}, {"*-*-* 00:00:00", "daily", "daily"}, {"Mon..Fri 8:30", "2000-1-0001", "*:0/5"}} {
		checkValues(t, api.KTimer, "Timer OnCalendar", func(u *api.Unit) { u.Calendar = l }, l...)
	}
}

// Line numbers

func TestLineNumbers(t *testing.T) {
	u := with(api.KTimer, func(u *api.Unit) {
		u.Desc, u.Burst, u.Persistent, u.Alias = "x", 1, true, []string{"b.timer", "c.timer"}
	})
	want := []api.Line{
		{Section: "Unit", Key: "Description", Value: "x", At: 2}, {Section: "Unit", Key: "StartLimitBurst", Value: "1", At: 3},
		{Section: "Timer", Key: "OnBootSec", Value: "5s", At: 6}, {Section: "Timer", Key: "Persistent", Value: "yes", At: 7},
		{Section: "Install", Key: "Alias", Value: "b.timer", At: 10}, {Section: "Install", Key: "Alias", Value: "c.timer", At: 11},
	}
	if got := render.Lines(u); !slices.Equal(got, want) {
		t.Errorf("Lines(%+v) = %+v, want %+v", u, got, want)
	}
	want = []api.Line{{Section: "Install", Key: "Alias", Value: "b.timer", At: 2}}
	u = with(api.KTarget, func(u *api.Unit) { u.Alias = []string{"b.timer"} })
	if got := render.Lines(u); !slices.Equal(got, want) {
		t.Errorf("Lines(%+v) = %+v, want %+v", u, got, want)
	}
}
