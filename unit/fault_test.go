package unit_test

import (
	"math"
	"slices"
	"strconv"
	"strings"
	"testing"

	"matins/api"
	"matins/unit"
)

// P10.2: the faults of lines

func TestWrongSpecifiers(t *testing.T) {
	for kind := range nameOf {
		for _, value := range []string{"%", "%q", "x%", "%n%", "%%%", "%N %", "%P", "% n", "%\x00", "%\xff"} {
			checkError(t, kind, "Unit Description="+value, api.ErrSpec)
			// The error of the specifier comes before those of the line.
			for _, key := range []string{"Unit Wants", "Unit StartLimitBurst", "Unit None", "None None", " ", "Service ExecStart", "Service Service", "Socket ListenStream", "Socket Service", "Timer Unit"} {
				checkError(t, kind, key+"="+value, api.ErrSpec)
			}
		}
	}
}

func TestFaultsOfKeys(t *testing.T) {
	for _, x := range []struct {
		kind int
		text string
		err  api.Errno
	}{
		{api.KService, "Socket ListenStream=80", api.ErrSection}, {api.KService, "Timer Unit=b.service", api.ErrSection}, {api.KSocket, "Service ExecStart=/a", api.ErrSection}, {api.KTimer, "Socket Backlog=1", api.ErrSection},
		{api.KTarget, "Service ExecStart=/a", api.ErrSection}, {api.KTarget, "Socket ListenStream=80", api.ErrSection}, {api.KTarget, "Timer OnBootSec=1", api.ErrSection},
		{api.KService, "unit Wants=b.service", api.ErrSection}, {api.KService, " Wants=b.service", api.ErrSection}, {api.KTarget, "Target Wants=b.service", api.ErrSection}, {api.KSocket, "Service Sockets=no name", api.ErrSection}, {api.KSocket, "Service None=", api.ErrSection},
		{api.KService, "Unit None=b.service", api.ErrKey}, {api.KService, "Unit wants=b.service", api.ErrKey}, {api.KService, "Unit ExecStart=/a", api.ErrKey}, {api.KService, "Service Service=b.service", api.ErrKey}, {api.KTimer, "Timer ListenStream=0", api.ErrKey}, {api.KSocket, "Unit Service=b.timer", api.ErrKey}, {api.KService, "Service =", api.ErrKey},
		{api.KService, "Unit Wants=no name", api.ErrValue}, {api.KService, "Unit Wants=b@.service", api.ErrValue}, {api.KService, "Unit DefaultDependencies=", api.ErrValue}, {api.KService, "Unit DefaultDependencies=Yes", api.ErrValue}, {api.KTarget, "Unit StartLimitIntervalSec=x", api.ErrValue}, {api.KTarget, "Unit StartLimitIntervalSec=6311433601", api.ErrValue}, {api.KTarget, "Unit StartLimitBurst=65536", api.ErrValue}, {api.KTarget, "Unit StartLimitBurst=-1", api.ErrValue},
		{api.KService, "Service Type=", api.ErrValue}, {api.KService, "Service Type=forking", api.ErrValue}, {api.KService, "Service Restart=on-watchdog", api.ErrValue}, {api.KService, "Service RestartSec=", api.ErrValue}, {api.KService, "Service ExecStop=-", api.ErrValue}, {api.KService, "Service ExecStop='x", api.ErrValue}, {api.KService, "Service ExecStop=''", api.ErrValue}, {api.KService, "Service ExecStop=" + strings.Repeat("x ", 33), api.ErrValue},
		{api.KService, "Service Environment=A", api.ErrValue}, {api.KService, "Service Environment=1=A", api.ErrValue}, {api.KService, "Service SuccessExitStatus=x", api.ErrValue}, {api.KService, "Service Sockets=b@.socket", api.ErrValue},
		{api.KSocket, "Socket ListenStream=65536", api.ErrValue}, {api.KSocket, "Socket ListenStream=80,81", api.ErrValue}, {api.KSocket, "Socket Backlog=", api.ErrValue}, {api.KSocket, "Socket Service=", api.ErrValue}, {api.KSocket, "Socket Service=b", api.ErrValue}, {api.KSocket, "Socket Service=b@.service", api.ErrValue},
		{api.KTimer, "Timer OnBootSec=x", api.ErrValue}, {api.KTimer, "Timer OnCalendar=never", api.ErrValue}, {api.KTimer, "Timer OnCalendar=0002000-01-01", api.ErrValue}, {api.KTimer, "Timer Unit=", api.ErrValue}, {api.KTimer, "Timer Unit=b@.service", api.ErrValue}, {api.KTimer, "Timer Unit=a.service b.service", api.ErrValue}, {api.KTimer, "Timer Persistent=maybe", api.ErrValue},
		{api.KTarget, "Install WantedBy=no name", api.ErrValue}, {api.KTarget, "Install Alias=b@.target", api.ErrValue}, {api.KTarget, "Unit Wants= ", api.ErrValue},
	} {
		checkError(t, x.kind, x.text, x.err)
	}
}

// What a line becomes by its specifiers is checked, not what it was.
func TestFaultsBehindSpecifiers(t *testing.T) {
	for _, x := range []struct {
		name, text string
		err        api.Errno
	}{
		{"a.target", "Unit Wants=%p", api.ErrValue},
		{"a.target", "Unit DefaultDependencies=%i", api.ErrValue},
		{"a.target", "Unit Wants=%%n", api.ErrValue},
		{"a@b.target", "Unit Wants=%p@.target", api.ErrValue},
		{`a@\x00.service`, "Service ExecStop=/x %I", api.ErrValue},
		{`a@\x27.service`, "Service ExecStop=/x %I", api.ErrValue},
		{`a@\x27.service`, "Service ExecStop=%I%I /x", api.ErrValue},
		{"a@x.service", `Service ExecStop=/x\%i`, api.ErrValue},
		{"a@0.socket", "Socket ListenStream=%i", api.ErrValue},
		{"a@0.socket", "Socket ListenStream=8%i %i%i", api.ErrValue},
		{"a@65536.socket", "Socket ListenStream=%i", api.ErrValue},
		{"a.socket", "Socket Service=%n", api.ErrValue},
		{"a.socket", "Socket Service=%p", api.ErrValue},
	} {
		checkFault(t, x.name, linesOf(x.text), x.err, 1)
	}
	checkEffectOn(t, "a@0.socket", api.KSocket, "Socket ListenStream=8%i 8%i%i", func(u *api.Unit) { u.Ports = []int{80, 800} })
}

func TestPorts(t *testing.T) {
	for _, value := range []string{"0", "00000", "0 80", "80 0", "80 000 81", " 0 ", "1 2 3 4 5 6 7 8 9 10 11 12 13 14 15 16 17 0", "80 80 0"} {
		checkFault(t, "a.socket", linesOf("Socket ListenStream="+value), api.ErrValue, 1)
		checkError(t, api.KSocket, "Socket ListenStream="+value, api.ErrValue)
	}
	for port := 1; port <= 65535; port += 13 {
		checkEffect(t, api.KSocket, "Socket ListenStream=\nSocket ListenStream="+strconv.Itoa(port), func(u *api.Unit) { u.Ports = []int{port} })
	}
	// No other number is a port.
	checkEffect(t, api.KSocket, "Socket Backlog=0\nUnit StartLimitBurst=0", func(u *api.Unit) { u.Backlog, u.Burst = 0, 0 })
	checkEffect(t, api.KService, "Service SuccessExitStatus=0", func(u *api.Unit) { u.Success = []int{0} })
}

func TestServicesOfSockets(t *testing.T) {
	for _, value := range []string{"b.socket", "b.timer", "b.target", "b@c.socket", "b.service.target", "a.socket", "b", "b@.service", "b.service c.service", "b.service ", " b.service"} {
		checkError(t, api.KSocket, "Socket Service="+value, api.ErrValue)
	}
}

// linesWith makes a line with a key for each value.
func linesWith(key string, values []string) []api.Line {
	return linesOf(key + "=" + strings.Join(values, "\n"+key+"="))
}

// countedLists are the lists that may have up to 16 elements, by their sections
// and keys, with their values by number.
var countedLists = []struct {
	kind  int
	key   string
	value func(i int) string
}{
	{api.KService, "Service ExecStartPre", func(int) string { return "/x" }},
	{api.KService, "Service ExecStart", func(int) string { return "/x" }},
	{api.KService, "Service ExecStartPost", func(int) string { return "/x" }},
	{api.KService, "Service ExecStop", func(int) string { return "/x" }},
	{api.KService, "Service ExecReload", func(int) string { return "/x" }},
	{api.KService, "Service SuccessExitStatus", strconv.Itoa},
	{api.KService, "Service Environment", func(i int) string { return "A" + strconv.Itoa(i) + "=x" }},
	{api.KService, "Service Sockets", func(i int) string { return "x" + strconv.Itoa(i) + ".socket" }},
	{api.KSocket, "Socket ListenStream", func(i int) string { return strconv.Itoa(i + 1) }},
	{api.KTimer, "Timer OnBootSec", func(int) string { return "7" }},
	{api.KTimer, "Timer OnActiveSec", func(int) string { return "7" }},
	{api.KTimer, "Timer OnUnitInactiveSec", func(int) string { return "7" }},
	{api.KTimer, "Timer OnCalendar", func(int) string { return "daily" }},
	{api.KTarget, "Install WantedBy", func(i int) string { return "x" + strconv.Itoa(i) + ".target" }},
	{api.KTimer, "Install RequiredBy", func(i int) string { return "x" + strconv.Itoa(i) + ".target" }},
	{api.KSocket, "Install Alias", func(i int) string { return "x" + strconv.Itoa(i) + ".target" }},
	{api.KService, "Install Also", func(i int) string { return "x" + strconv.Itoa(i) + ".target" }},
}

// checkTaken checks that lines have no fault, together with those that their
// unit needs besides.
func checkTaken(t *testing.T, kind int, l []api.Line) {
	t.Helper()
	all := linesOf(sound[kind].text)
	if slices.ContainsFunc(l, func(x api.Line) bool { return x.Key == all[0].Key }) {
		all = nil
	}
	if kind == api.KService {
		all = append(all, linesOf("Service Type=oneshot")...)
	}
	if _, fault := unit.Make(nameOf[kind], append(all, l...)); fault != (api.Fault{}) {
		t.Errorf("Make(%q, %.1000v) has fault %+v", nameOf[kind], l[:min(len(l), 30)], fault)
	}
}

func valuesOf(value func(int) string, n int) []string {
	l := make([]string, n)
	for i := range l {
		l[i] = value(i)
	}
	return l
}

func TestLongLists(t *testing.T) {
	for _, x := range countedLists {
		most := linesWith(x.key, valuesOf(x.value, 16))
		checkTaken(t, x.kind, most)
		more := linesWith(x.key, valuesOf(x.value, 17))
		checkFault(t, nameOf[x.kind], more, api.ErrLong, 17)
		// That the list is emptied later does not help; before, it does.
		checkFault(t, nameOf[x.kind], slices.Concat(more, linesWith(x.key, []string{"", x.value(0)})), api.ErrLong, 17)
		checkTaken(t, x.kind, slices.Concat(most, linesWith(x.key, []string{""}), most))
		checkTaken(t, x.kind, slices.Concat(most, linesWith("Unit Description", []string{"x"})))
		checkFault(t, nameOf[x.kind], slices.Concat(more, linesOf("None None=%")), api.ErrLong, 17)
		checkFault(t, nameOf[x.kind], slices.Concat(more[:16], linesOf("None None="), more), api.ErrSection, 1)
	}
}

// Elements that are present already do not count.
func TestLongLines(t *testing.T) {
	for _, x := range countedLists {
		if values := valuesOf(x.value, 17); values[0] != values[1] {
			most, more := strings.Join(values[:16], " "), strings.Join(values, " ")
			checkTaken(t, x.kind, linesWith(x.key, []string{most}))
			checkFault(t, nameOf[x.kind], linesWith(x.key, []string{more}), api.ErrLong, 1)
			checkFault(t, nameOf[x.kind], linesWith(x.key, []string{values[5], more}), api.ErrLong, 2)
			checkFault(t, nameOf[x.kind], linesWith(x.key, []string{most, values[16] + " " + values[0]}), api.ErrLong, 2)
			again := strings.Join(append(slices.Clone(values[:16]), values[0], values[15]), " ")
			checkTaken(t, x.kind, linesWith(x.key, []string{again}))
			checkTaken(t, x.kind, linesWith(x.key, []string{again, again, values[15] + " " + values[3], again}))
		}
	}
}

// Each list has its own limit, and the words of a command have another one.
func TestListsTogether(t *testing.T) {
	var l []api.Line
	for _, x := range countedLists {
		if x.kind == api.KService {
			l = slices.Concat(l, linesWith(x.key, valuesOf(x.value, 16)))
		}
	}
	checkTaken(t, api.KService, l)
	checkTaken(t, api.KService, linesOf("Service ExecStop="+strings.Repeat("x ", 32)))
}

// otherNames returns n different names.
func otherNames(n int) []string {
	return valuesOf(func(i int) string { return "x" + strconv.Itoa(i) + ".target" }, n)
}

func TestLongRelations(t *testing.T) {
	for i, key := range relations {
		key, other := "Unit "+key, "Unit "+relations[(i+4)%9]
		for kind, own := range nameOf {
			most, more := strings.Join(otherNames(64), " "), strings.Join(otherNames(65), " ")
			half, rest := strings.Join(otherNames(40), " "), strings.Join(otherNames(24), " ")
			checkTaken(t, kind, linesWith(key, []string{most}))
			checkTaken(t, kind, linesWith(key, otherNames(64)))
			checkFault(t, own, linesWith(key, []string{more}), api.ErrLong, 1)
			checkFault(t, own, linesWith(key, otherNames(65)), api.ErrLong, 65)
			checkTaken(t, kind, linesWith(key, []string{own + " " + most + " " + own, "x7.target", half}))
			checkTaken(t, kind, linesOf(key+"="+half+"\n"+other+"="+rest))
			checkFault(t, own, linesOf(key+"="+half+"\n"+other+"="+rest+" y.target"), api.ErrLong, 2)
			checkFault(t, own, linesOf(key+"="+half+"\n"+other+"="+rest+"\n"+key+"=x39.target\n"+key+"=y.target"), api.ErrLong, 4)
			checkTaken(t, kind, linesOf(key+"="+half+"\n"+other+"="+rest+"\n"+key+"=\n"+other+"="+half))
			checkFault(t, own, linesOf(key+"="+more+"\n"+key+"="), api.ErrLong, 1)
		}
	}
}

// The order of the errors within a line, of one line and another, and of lines
// and the whole.
func TestFirstFault(t *testing.T) {
	seventeen := strings.Join(valuesOf(func(i int) string { return strconv.Itoa(i + 1) }, 17), " ")
	for _, x := range []struct {
		name, text string
		err        api.Errno
		at         int
	}{
		{"a.socket", "Socket ListenStream=" + seventeen + " 0 %", api.ErrSpec, 1},
		{"a.socket", "Socket ListenStream=" + seventeen + " 0 x", api.ErrValue, 1},
		{"a.socket", "Socket ListenStream=" + seventeen + " 0", api.ErrValue, 1},
		{"a.socket", "Socket ListenStream=" + seventeen, api.ErrLong, 1},
		{"a.socket", "Unit Wants=\nSocket ListenStream=" + seventeen + "\nNone None=%", api.ErrLong, 2},
		{"a.socket", "Unit Wants=\nNone None=\nUnit Wants=%", api.ErrSection, 2},
		{"a.socket", "Unit None=\nNone None=", api.ErrKey, 1},
		{"a.socket", "Unit Wants=x\nUnit None=\nNone None=\nUnit Wants=%", api.ErrValue, 1},
		{"a.socket", "Unit Wants=%\nUnit Wants=x\nUnit None=\nNone None=", api.ErrSpec, 1},
		{"a.socket", "Socket Service=b.timer\nSocket Service=x", api.ErrValue, 1},
		{"a.socket", "Socket Service=b.service\nSocket Service=b.timer\nSocket Service=b.service", api.ErrValue, 2},
		{"a.service", "Unit Wants=\nUnit Wants=x", api.ErrValue, 2},
		{"a.service", "Service ExecStart=/a\nService ExecStart=/b\nUnit Wants=x", api.ErrValue, 3},
		{"a.timer", "Unit None=", api.ErrKey, 1},
		{"a", "Unit None=%", api.ErrName, 0},
	} {
		checkFault(t, x.name, linesOf(x.text), x.err, x.at)
	}
}

// The number of a line is its At, whatever that is.
func TestNumbersOfLines(t *testing.T) {
	for _, at := range []int{0, 1, -1, 7, 1 << 40, math.MaxInt, math.MinInt} {
		for text, err := range map[string]api.Errno{"Unit Wants=%": api.ErrSpec, "None Wants=": api.ErrSection, "Unit None=": api.ErrKey, "Unit Wants=x": api.ErrValue, "Socket ListenStream=0": api.ErrValue, "Unit Wants=" + strings.Join(otherNames(65), " "): api.ErrLong} {
			l := linesOf("Unit Description=x\n" + text + "\nUnit Wants=%")
			l[0].At, l[1].At, l[2].At = 3, at, 5
			checkFault(t, "a.socket", l, err, at)
			l[0].At, l[2].At = at, at
			checkFault(t, "a.socket", l, err, at)
		}
		l := linesOf("Unit Wants=\nUnit Description=x")
		l[0].At, l[1].At = at, at
		checkFault(t, "a.socket", l, api.ErrNone, 0)
		want := unit.New("a.target")
		want.Desc = "x"
		checkMake(t, "a.target", l, want)
	}
}

// P10.3

func TestUnitsWithNothing(t *testing.T) {
	for _, x := range []struct {
		name  string
		texts []string
	}{
		{"a.service", []string{"", "Service ExecStartPre=/a\nService ExecStartPost=/a\nService ExecStop=/a\nService ExecReload=/a", "Service ExecStart=/a\nService ExecStart=", "Service ExecStart=", "Service Type=oneshot", "Service Type=oneshot\nService ExecStart=/a\nService ExecStart=/b\nService ExecStart=", "Service RemainAfterExit=yes", "Service Sockets=a.socket"}},
		{"a.socket", []string{"", "Socket ListenStream=80\nSocket ListenStream=", "Socket Backlog=3\nSocket Service=b.service\nSocket FileDescriptorName=80", "Install Also=a.service"}},
		{"a.timer", []string{"", "Timer Persistent=yes", "Timer Unit=b.service", "Timer OnBootSec=\nTimer OnActiveSec=\nTimer OnUnitInactiveSec=\nTimer OnCalendar=", "Timer OnBootSec=1\nTimer OnActiveSec=1\nTimer OnUnitInactiveSec=1\nTimer OnCalendar=daily\nTimer OnCalendar=\nTimer OnUnitInactiveSec=\nTimer OnActiveSec=\nTimer OnBootSec="}},
	} {
		for _, text := range x.texts {
			checkFault(t, x.name, linesOf(text), api.ErrNone, 0)
			checkFault(t, strings.Replace(x.name, ".", "@b.", 1), linesOf(text), api.ErrNone, 0)
		}
	}
}

func TestTimersWithOneThing(t *testing.T) {
	for text, effect := range map[string]func(*api.Unit){
		"OnBootSec=0":         func(u *api.Unit) { u.Boot = []int{0} },
		"OnActiveSec=0":       func(u *api.Unit) { u.Active = []int{0} },
		"OnUnitInactiveSec=0": func(u *api.Unit) { u.Idle = []int{0} },
		"OnCalendar=yearly":   func(u *api.Unit) { u.Calendar = []string{"yearly"} },
	} {
		want := unit.New("a.timer")
		effect(&want)
		checkMake(t, "a.timer", linesOf("Timer "+text), want)
	}
}

func TestSecondCommands(t *testing.T) {
	commands := []api.Exec{{Words: []string{"/a"}}, {Words: []string{"/b"}}}
	for _, x := range []string{"", "Service Type=simple\n", "Service Type=notify\n", "Service Type=oneshot\nService Type=simple\n"} {
		checkFault(t, "a.service", linesOf(x+"Service ExecStart=/a\nService ExecStart=/b"), api.ErrTwice, 0)
		checkFault(t, "a.service", linesOf(x+"Service ExecStart=/a\nService ExecStart=/a"), api.ErrTwice, 0)
		checkFault(t, "a.service", linesOf(x+"Service ExecStart=/a\nService ExecStart=-/b\nService ExecStart=/c"), api.ErrTwice, 0)
	}
	checkFault(t, "a.service", linesOf("Service ExecStart=/a\nService ExecStart=/b\nService Type=notify"), api.ErrTwice, 0)
	for _, text := range []string{"Service Type=oneshot\nService ExecStart=/a\nService ExecStart=/b", "Service ExecStart=/a\nService ExecStart=/b\nService Type=oneshot", "Service ExecStart=/c\nService ExecStart=\nService ExecStart=/a\nService Type=notify\nService ExecStart=/b\nService Type=oneshot"} {
		want := unit.New("a.service")
		want.Type, want.Start = api.TOneshot, commands
		checkMake(t, "a.service", linesOf(text), want)
	}
	// Only the last list counts, and no other one.
	checkEffect(t, api.KService, "Service ExecStart=/b\nService ExecStart=\nService ExecStart=/a", func(*api.Unit) {})
	for key := range commandLists {
		if key != "ExecStart" {
			checkEffect(t, api.KService, "Service "+key+"=/a\nService "+key+"=/b", func(u *api.Unit) { *commandLists[key](u) = commands })
		}
	}
}
