package keys_test

import (
	"fmt"
	"math"
	"math/rand"
	"slices"
	"strings"
	"testing"

	"matins/api"
	"matins/keys"
)

// expectedFault returns what Check(kind, l) is to return.
func expectedFault(kind int, l []api.Line) api.Fault {
	for _, line := range l {
		err := api.ErrSection
		for _, k := range expectedKeys() {
			if k.Section != line.Section || kind < 1 || kind > 4 || k.Kinds&[]int{0, 2, 4, 8, 16}[kind] == 0 {
				continue
			}
			err = api.ErrKey
			if k.Name == line.Key {
				err = expectedValue(k, line.Value)
				break
			}
		}
		if err != api.OK {
			return api.Fault{Code: err, At: line.At}
		}
	}
	return api.Fault{}
}

func checkFault(t *testing.T, kind int, want api.Fault, l ...api.Line) {
	t.Helper()
	if got := keys.Check(kind, l); got != want {
		t.Errorf("Check of kind %d, lines %.2000s = %+v, want %+v", kind, fmt.Sprintf("%+v", l[:min(len(l), 9)]), got, want)
	}
}

func checkSound(t *testing.T, kind int, l ...api.Line) {
	t.Helper()
	checkFault(t, kind, api.Fault{}, l...)
}

func checkByForm(t *testing.T, kind int, l ...api.Line) {
	t.Helper()
	checkFault(t, kind, expectedFault(kind, l), l...)
}

func line(section, key, value string) api.Line {
	return api.Line{Section: section, Key: key, Value: value, At: 7}
}

// A value that each form takes.
var good = map[int]string{
	api.VText: "any text", api.VBool: "yes", api.VInt: "80", api.VSpan: "5min", api.VName: "a.service", api.VNames: "a.service b@c.timer",
	api.VExec: "-/bin/true 'x y'", api.VEnv: "A=1 B='2 3'", api.VCal: "Mon..Fri 8:30", api.VWord: "", api.VInts: "80 443",
}

func goodFor(k api.Key) string {
	if k.Form == api.VWord {
		return k.Words[len(k.Words)-1]
	}
	return good[k.Form]
}

// P8.3

func TestSoundLines(t *testing.T) {
	checkSound(t, api.KService, line("Unit", "Description", "a\nb"), line("Unit", "Wants", "a.service"), line("Unit", "Wants", ""),
		line("Service", "Type", "oneshot"), line("Service", "ExecStart", "/bin/true"), line("Service", "ExecStart", "-x"), line("Service", "Type", "simple"), line("Install", "WantedBy", "b.target"))
	checkSound(t, api.KSocket, line("Socket", "ListenStream", "80 443"), line("Socket", "Service", "a.service"), line("Unit", "Description", ""))
	checkSound(t, api.KTimer, line("Timer", "OnCalendar", "daily"), line("Timer", "Unit", "a.target"), line("Install", "DefaultInstance", "x"))
	checkSound(t, api.KTarget, line("Unit", "Requires", "a.service"), line("Install", "Also", "b.service c.service"))
}

func TestEachKeyForEachKind(t *testing.T) {
	for _, k := range expectedKeys() {
		for kind := -1; kind <= 6; kind++ {
			may := kind >= 1 && kind <= 4 && (k.Section == "Unit" || k.Section == "Install" || k.Section == "Service" && kind == 1 || k.Section == "Socket" && kind == 2 || k.Section == "Timer" && kind == 3)
			l := line(k.Section, k.Name, goodFor(k))
			if may {
				checkSound(t, kind, l)
			} else {
				checkFault(t, kind, api.Fault{Code: api.ErrSection, At: 7}, l)
			}
			l.Value = ""
			checkByForm(t, kind, l)
			l.Value = "'\x00"
			checkByForm(t, kind, l)
		}
	}
}

func TestNoKind(t *testing.T) {
	for _, kind := range []int{0, 5, 6, -1, -4, 62, 63, 64, 65, 66, 67, 68, 128, 256 + 1, 1 << 32, 1<<32 + 1, 1 << 40, math.MaxInt, math.MinInt, math.MinInt + 1} {
		for section := range kindSets {
			checkFault(t, kind, api.Fault{Code: api.ErrSection, At: 7}, line(section, "Description", "x"))
		}
		checkFault(t, kind, api.Fault{Code: api.ErrSection, At: 7}, line("", "", ""))
		checkSound(t, kind)
	}
}

func TestErrorsOfALine(t *testing.T) {
	for _, x := range []struct {
		kind int
		want api.Errno
		line api.Line
	}{
		{api.KService, api.ErrSection, line("", "Description", "x")},
		{api.KService, api.ErrSection, line("unit", "Description", "x")},
		{api.KService, api.ErrSection, line("Unit ", "Description", "x")},
		{api.KService, api.ErrSection, line("Wants", "Wants", "x")},
		{api.KService, api.ErrSection, line("Description", "Description", "x")},
		{api.KService, api.ErrSection, line("Socket", "Backlog", "1")},
		{api.KService, api.ErrSection, line("Timer", "Unit", "a.service")},
		{api.KSocket, api.ErrSection, line("Service", "Type", "simple")},
		{api.KTarget, api.ErrSection, line("Service", "Type", "simple")},
		{api.KTarget, api.ErrSection, line("Target", "Description", "x")},

		{api.KService, api.ErrKey, line("Unit", "", "x")},
		{api.KService, api.ErrKey, line("Unit", "description", "x")},
		{api.KService, api.ErrKey, line("Unit", "Description ", "x")},
		{api.KService, api.ErrKey, line("Unit", "Type", "simple")},
		{api.KService, api.ErrKey, line("Unit", "Unit", "a.service")},
		{api.KService, api.ErrKey, line("Service", "Service", "a.service")},
		{api.KService, api.ErrKey, line("Service", "Description", "x")},
		{api.KService, api.ErrKey, line("Service", "Backlog", "1")},
		{api.KService, api.ErrKey, line("Install", "Wants", "a.service")},
		{api.KSocket, api.ErrKey, line("Socket", "Unit", "a.service")},
		{api.KTimer, api.ErrKey, line("Timer", "Service", "a.service")},

		{api.KService, api.ErrValue, line("Service", "Type", "")},
		{api.KService, api.ErrValue, line("Service", "Type", "x")},
		{api.KService, api.ErrValue, line("Service", "Type", "always")},
		{api.KService, api.ErrValue, line("Service", "Restart", "simple")},
		{api.KService, api.ErrValue, line("Service", "Environment", "A")},
		{api.KService, api.ErrValue, line("Service", "ExecStart", "'")},
		{api.KService, api.ErrValue, line("Unit", "Wants", "a")},
		{api.KService, api.ErrValue, line("Unit", "Wants", "%n")},
		{api.KService, api.ErrValue, line("Unit", "DefaultDependencies", "")},
		{api.KService, api.ErrValue, line("Unit", "StartLimitBurst", "65536")},
		{api.KSocket, api.ErrValue, line("Socket", "Service", "a@.service")},
		{api.KSocket, api.ErrValue, line("Socket", "ListenStream", "1 x")},
		{api.KTimer, api.ErrValue, line("Timer", "OnCalendar", "never")},
		{api.KTimer, api.ErrValue, line("Timer", "OnBootSec", "5x")},
	} {
		checkFault(t, x.kind, api.Fault{Code: x.want, At: 7}, x.line)
	}
}

// The errors of one line come in the order of the chapter.
func TestOrderOfErrors(t *testing.T) {
	// Section, key and value are wrong; key and value are; the value is.
	checkFault(t, api.KTarget, api.Fault{Code: api.ErrSection, At: 7}, line("Service", "Typ", "x"))
	checkFault(t, api.KTarget, api.Fault{Code: api.ErrSection, At: 7}, line("Service", "Type", "x"))
	checkFault(t, api.KTarget, api.Fault{Code: api.ErrSection, At: 7}, line("None", "None", ""))
	checkFault(t, api.KService, api.Fault{Code: api.ErrKey, At: 7}, line("Service", "Typ", "x"))
	checkFault(t, api.KService, api.Fault{Code: api.ErrKey, At: 7}, line("Service", "Typ", ""))
	checkFault(t, api.KService, api.Fault{Code: api.ErrValue, At: 7}, line("Service", "Type", "x"))
}

// Of the lines, the first one with an error counts, whatever the errors of the
// others and their numbers.
func TestFirstFault(t *testing.T) {
	sound := api.Line{Section: "Unit", Key: "Wants", Value: "a.service", At: 5}
	bad := []api.Line{
		{Section: "None", Key: "Wants", At: 9},
		{Section: "Unit", Key: "None", At: 3},
		{Section: "Unit", Key: "Wants", Value: "x", At: 6},
	}
	wants := []api.Errno{api.ErrSection, api.ErrKey, api.ErrValue}
	for i, first := range bad {
		want := api.Fault{Code: wants[i], At: first.At}
		for _, second := range bad {
			checkFault(t, api.KService, want, first, second)
			checkFault(t, api.KService, want, sound, first, sound, second, sound)
			checkFault(t, api.KService, want, append(slices.Repeat([]api.Line{sound}, 100), first, second)...)
		}
	}
}

func TestNumbersOfLines(t *testing.T) {
	for _, at := range []int{0, 1, -1, 5000, math.MaxInt, math.MinInt} {
		checkSound(t, api.KService, api.Line{Section: "Unit", Key: "Description", Value: "x", At: at})
		checkFault(t, api.KService, api.Fault{Code: api.ErrSection, At: at}, api.Line{Section: "None", At: at})
		checkFault(t, api.KService, api.Fault{Code: api.ErrKey, At: at}, api.Line{Section: "Unit", At: at}, line("None", "", ""))
		checkFault(t, api.KService, api.Fault{Code: api.ErrValue, At: at}, line("Unit", "Wants", ""), api.Line{Section: "Service", Key: "Type", At: at})
	}
}

// Check looks at each line alone: at no order of sections, and at no key that
// comes twice.
func TestLinesAlone(t *testing.T) {
	checkSound(t, api.KService, line("Install", "Alias", "b.service"), line("Service", "Type", "simple"), line("Unit", "Wants", ""), line("Service", "Type", "notify"), line("Install", "Alias", "b.service"))
	checkFault(t, api.KService, api.Fault{Code: api.ErrValue, At: 7}, line("Service", "Type", "x"), line("Service", "Type", "simple"))
	checkFault(t, api.KService, api.Fault{Code: api.ErrValue, At: 7}, line("Unit", "Wants", "x"), line("Unit", "Wants", ""))
}

func TestCheckOfRandomLines(t *testing.T) {
	random := rand.New(rand.NewSource(83))
	all := expectedKeys()
	for range 5000 {
		l := make([]api.Line, random.Intn(8))
		for i := range l {
			k := all[random.Intn(len(all))]
			if random.Intn(3) > 0 {
				k = all[random.Intn(13)] // those of all kinds
			}
			l[i] = api.Line{Section: k.Section, Key: k.Name, Value: goodFor(k), At: random.Intn(100)}
			switch random.Intn(20) {
			case 0:
				l[i].Section = all[random.Intn(len(all))].Section
			case 1:
				l[i].Key = all[random.Intn(len(all))].Name
			case 2:
				l[i].Value = good[random.Intn(12)]
			}
		}
		checkByForm(t, random.Intn(7)-1, l...)
	}
}

// General rules

// P0.1: every call ends, also with long arguments.
func TestLongLists(t *testing.T) {
	const length = 1 << 16
	sound := slices.Repeat([]api.Line{line("Service", "ExecStart", "a b")}, length)
	checkSound(t, api.KService, sound...)
	checkFault(t, api.KService, api.Fault{Code: api.ErrKey, At: 7}, append(sound, line("Unit", "x", ""))...)
	checkFault(t, api.KService, api.Fault{Code: api.ErrSection}, make([]api.Line, length)...)
	long := strings.Repeat("Unit", length)
	checkFault(t, api.KService, api.Fault{Code: api.ErrSection, At: 7}, line(long, long, long))
	checkFault(t, api.KService, api.Fault{Code: api.ErrKey, At: 7}, line("Unit", long, long))
	checkFault(t, api.KService, api.Fault{Code: api.ErrValue, At: 7}, line("Unit", "Wants", long))
	checkSound(t, api.KService, line("Unit", "Description", long))
}

// P0.3: Check keeps and changes nothing of its argument, not even behind its end.
func TestLinesAreLeft(t *testing.T) {
	l := []api.Line{line("Unit", "Wants", " a.service  b.service "), line("Service", "Type", "x"), line("None", "behind", "x")}
	before := slices.Clone(l)
	checkSound(t, api.KService, l[:1]...)
	checkFault(t, api.KService, api.Fault{Code: api.ErrValue, At: 7}, l[:2]...)
	if !slices.Equal(l, before) {
		t.Errorf("the lines are now %+v", l)
	}
	l[1].Value = "simple"
	checkSound(t, api.KService, l[:2]...)
}

// P0.4: nil and an empty list are the same.
func TestNilAndEmpty(t *testing.T) {
	for kind := -1; kind <= 5; kind++ {
		for _, l := range [][]api.Line{nil, {}} {
			checkSound(t, kind, l...)
			if got := keys.Check(kind, l); got != (api.Fault{}) {
				t.Errorf("Check(%d, nothing) = %+v", kind, got)
			}
		}
	}
}
