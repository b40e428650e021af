package blend_test

import (
	"fmt"
	"math"
	"math/rand"
	"slices"
	"strings"
	"sync"
	"testing"

	"matins/api"
	"matins/blend"
)

// P9.1 is built as the chapter's section Ways asks: with a variadic parameter.
var _ func(...[]api.Line) []api.Line = blend.All

// The keys of chapter 08, written out, so that the tests do not hang on package
// keys: those with List set, and those with List not set.
var (
	listKeys = map[string]string{
		"Unit":    "Requires Wants Requisite BindsTo PartOf Conflicts Before After OnFailure",
		"Service": "ExecStartPre ExecStart ExecStartPost ExecStop ExecReload SuccessExitStatus Environment Sockets",
		"Socket":  "ListenStream",
		"Timer":   "OnBootSec OnActiveSec OnUnitInactiveSec OnCalendar",
		"Install": "WantedBy RequiredBy Alias Also",
	}
	singleKeys = map[string]string{
		"Unit":    "Description DefaultDependencies StartLimitIntervalSec StartLimitBurst",
		"Service": "Type RemainAfterExit Restart RestartSec TimeoutStartSec TimeoutStopSec",
		"Socket":  "Backlog FileDescriptorName Service",
		"Timer":   "Persistent Unit",
		"Install": "DefaultInstance",
	}
	sections = []string{"Unit", "Service", "Socket", "Timer", "Install"}
)

// place is a section and a key, one behind the other.
type place [2]string

func placesOf(table map[string]string) []place {
	var l []place
	for _, section := range sections {
		for _, key := range strings.Fields(table[section]) {
			l = append(l, place{section, key})
		}
	}
	return l
}

func isIn(table map[string]string, line api.Line) bool {
	return slices.Contains(placesOf(table), place{line.Section, line.Key})
}

// expected returns what All(l) is to return: it asks of each line whether a line
// removes it.
func expected(l []api.Line) []api.Line {
	var result []api.Line
	for i, line := range l {
		isSame := func(x api.Line) bool { return x.Section == line.Section && x.Key == line.Key }
		empties := func(x api.Line) bool { return isSame(x) && x.Value == "" }
		isRemoved := isIn(listKeys, line) && slices.ContainsFunc(l[i:], empties) ||
			isIn(singleKeys, line) && slices.ContainsFunc(l[i+1:], isSame)
		if !isRemoved {
			result = append(result, line)
		}
	}
	return result
}

func checkLines(t *testing.T, got, want []api.Line, of ...[]api.Line) {
	t.Helper()
	if !slices.Equal(got, want) {
		t.Errorf("All of %.2000s =\n%.2000s, want\n%.2000s", fmt.Sprintf("%+v", of), fmt.Sprintf("%+v", got), fmt.Sprintf("%+v", want))
	}
}

// checkAll checks All(l...), and that All removes no more from what remains.
func checkAll(t *testing.T, want []api.Line, l ...[]api.Line) {
	t.Helper()
	got := blend.All(l...)
	checkLines(t, got, want, l...)
	checkLines(t, blend.All(got), want, got)
}

// marked reads lists of lines, with a line "/" between two lists; those that are
// to remain have a "+", the others a "-".
func marked(text string) (lists [][]api.Line, want []api.Line) {
	var list []api.Line
	for i, s := range strings.Split(strings.TrimSpace(text), "\n") {
		s = strings.TrimSpace(s)
		if s == "/" {
			lists, list = append(lists, list), nil
			continue
		}
		section, entry, _ := strings.Cut(s[2:], " ")
		key, value, _ := strings.Cut(entry, "=")
		line := api.Line{Section: section, Key: key, Value: value, At: i + 1}
		list = append(list, line)
		if s[0] == '+' {
			want = append(want, line)
		}
	}
	return append(lists, list), want
}

// checkMarked checks All for lists that marked reads, and for all of their lines
// in one list.
func checkMarked(t *testing.T, text string) {
	t.Helper()
	lists, want := marked(text)
	checkAll(t, want, lists...)
	checkAll(t, want, slices.Concat(lists...))
}

// P9.1: the lists are concatenated.

func TestListsAreConcatenated(t *testing.T) {
	checkMarked(t, `
		+ Unit Wants=a.service
		+ Unit Description=x
		/
		+ Service ExecStart=b
		+ Unit Wants=b.service
		/
		/
		+ Install Alias=c.service
		+ Unit Odd=1
		+ Unit Wants=a.service`)
}

// The lines remain in their order, whatever their sections, keys and values are.
func TestOrderRemains(t *testing.T) {
	checkMarked(t, `
		+ Timer OnCalendar=z
		+ Install Also=y
		+ Unit Wants=x
		+ Install Also=a
		+ Unit Odd=
		+ Timer OnCalendar=b
		/
		+ Unit After=c
		+ Unit Wants=a
		+ Timer OnCalendar=a
		+ Unit Odd=`)
}

// A single key stands where its last line stands, not where its first one stood.
func TestPlaceOfALastLine(t *testing.T) {
	checkMarked(t, `
		- Unit Description=x
		+ Unit Wants=a
		+ Unit Description=y
		+ Unit Wants=b`)
	checkMarked(t, `
		- Unit Description=x
		+ Unit Wants=a
		/
		+ Unit Wants=b
		+ Unit Description=y`)
}

// How the lines are shared out among the lists counts for nothing.
func TestCutsDoNotCount(t *testing.T) {
	lists, want := marked(`
		- Unit Wants=a
		- Unit Description=x
		+ Unit Odd=
		- Unit Wants=
		+ Unit Wants=b
		+ Unit Description=`)
	l := lists[0]
	for i := range len(l) + 1 {
		for j := i; j <= len(l); j++ {
			checkAll(t, want, l[:i], l[i:j], l[j:])
		}
	}
	var each [][]api.Line
	for i := range l {
		each = append(each, nil, l[i:i+1])
	}
	checkAll(t, want, each...)
}

// The numbers of the lines remain, and count for nothing.
func TestNumbersOfLines(t *testing.T) {
	for _, at := range []int{0, 1, -1, math.MaxInt, math.MinInt} {
		l := []api.Line{
			{Section: "Unit", Key: "Wants", Value: "a", At: 3}, {Section: "Unit", Key: "Description", Value: "a", At: 3},
			{Section: "Unit", Key: "Wants", At: at}, {Section: "Unit", Key: "Description", Value: "b", At: at},
			{Section: "Unit", Key: "Wants", Value: "c", At: at}, {Section: "None", Key: "None", Value: "d", At: at}, {Section: "None", Key: "None", Value: "d", At: at},
		}
		checkAll(t, l[3:], l)
		checkAll(t, l[3:], l[:2], l[2:])
	}
}

// P9.1: an empty value of a list.

func TestEmptyValueRemovesEarlierLines(t *testing.T) {
	checkMarked(t, `
		- Unit Wants=a.service
		- Unit Wants=b.service
		- Unit Wants=
		+ Unit Wants=c.service
		+ Unit Wants=d.service`)
	checkMarked(t, `
		- Unit Wants=a.service
		/
		- Unit Wants=b.service
		- Unit Wants=
		/
		+ Unit Wants=c.service`)
	checkMarked(t, `
		- Unit Wants=a.service
		- Unit Wants=b.service
		/
		/
		- Unit Wants=c.service
		/
		- Unit Wants=
		+ Unit Wants=d.service`)
}

// The line with the empty value goes also where it is alone, first or last.
func TestEmptyValueIsRemoved(t *testing.T) {
	checkMarked(t, "- Unit Wants=")
	checkMarked(t, "- Unit Wants=\n- Unit Wants=")
	checkMarked(t, "- Unit Wants=\n/\n- Unit Wants=\n/\n- Unit Wants=")
	checkMarked(t, "- Unit Wants=\n+ Unit Wants=a")
	checkMarked(t, "- Unit Wants=a\n- Unit Wants=")
	checkMarked(t, "- Unit Wants=a\n/\n- Unit Wants=")
	checkMarked(t, "- Unit Wants=a\n- Unit Wants=\n- Unit Wants=b\n- Unit Wants=")
	checkMarked(t, "- Unit Wants=a\n- Unit Wants=\n- Unit Wants=b\n/\n- Unit Wants=\n+ Unit Wants=c")
}

func TestEmptyValueRemovesNoOtherKey(t *testing.T) {
	checkMarked(t, `
		+ Unit Requires=a
		+ Unit Description=x
		+ Unit Odd=1
		+ Install WantedBy=a
		+ Service ExecStart=a
		- Unit Wants=a
		- Unit Wants=
		- Service ExecStop=
		- Timer OnCalendar=
		+ Unit BindsTo=b`)
}

// Lines of a list without an empty value all remain, equal ones also.
func TestListKeepsAllLines(t *testing.T) {
	checkMarked(t, `
		+ Unit Wants=a
		+ Unit Wants=a
		+ Service Environment=A=1
		/
		+ Service Environment=A=1
		+ Unit Wants=b
		+ Service Environment=A=2
		+ Unit Wants=a`)
}

// Only the value without any byte is empty.
func TestNearlyEmptyValues(t *testing.T) {
	for _, value := range []string{" ", "  ", "\t", "\n", "\x00", `""`, "''", "-", `\`, "%%", "\xff", "0", "no"} {
		l := []api.Line{{Section: "Unit", Key: "Wants", Value: "a", At: 1}, {Section: "Unit", Key: "Wants", Value: value, At: 2}}
		checkAll(t, l, l)
		checkAll(t, l, l[:1], l[1:])
	}
}

// P9.1: several lines of a key with List not set.

func TestLastOfASingleKey(t *testing.T) {
	checkMarked(t, `
		- Unit Description=x
		- Unit Description=y
		+ Unit Description=z`)
	checkMarked(t, `
		- Service Type=notify
		- Unit Description=x
		/
		- Service Type=oneshot
		/
		+ Service Type=simple
		/
		+ Unit Description=y`)
	checkMarked(t, "+ Unit Description=x")
	checkMarked(t, "- Unit Description=x\n+ Unit Description=x")
}

// An empty value of such a key is a value like others: as the last one it
// remains, and it brings no earlier one back.
func TestEmptyValueOfASingleKey(t *testing.T) {
	checkMarked(t, "+ Unit Description=")
	checkMarked(t, "- Unit Description=\n+ Unit Description=")
	checkMarked(t, "- Unit Description=x\n+ Unit Description=")
	checkMarked(t, "- Unit Description=x\n/\n- Unit Description=\n/\n+ Unit Description=y")
	checkMarked(t, "- Socket Backlog=1\n/\n+ Socket Backlog=\n+ Timer Unit=")
}

func TestSingleKeyRemovesNoOtherKey(t *testing.T) {
	checkMarked(t, `
		- Service RestartSec=1
		+ Service Restart=no
		+ Service Type=simple
		+ Timer Unit=a.service
		+ Unit Unit=b
		+ Socket Service=c.service
		+ Service Service=d
		+ Unit Wants=e
		+ Service RestartSec=2`)
}

// P9.1: unknown keys.

func TestUnknownKeysRemain(t *testing.T) {
	checkMarked(t, `
		+ Unit Odd=1
		+ Unit Odd=
		+ Unit Odd=1
		+ None Odd=
		+ None Odd=
		/
		+ Unit Odd=
		+ Unit Odd=2
		+ Unit =
		+ Unit =`)
	none := make([]api.Line, 3) // neither section nor key
	checkAll(t, none, none)
}

// Lines of unknown keys remove none of a key with the same name, or section.
func TestUnknownKeysRemoveNone(t *testing.T) {
	checkMarked(t, `
		+ Unit Wants=a
		+ Service Wants=a
		+ Unit Description=x
		+ Target Wants=
		+ Service Wants=
		+ Unit wants=
		+ Unit Want=
		+ Target Description=y
		+ Service Description=z
		+ Unit description=z`)
}

// A known name is known in its own section alone.
func TestEachKeyInEachSection(t *testing.T) {
	for _, x := range slices.Concat(placesOf(listKeys), placesOf(singleKeys)) {
		for _, section := range append([]string{"", "Target", "unit"}, sections...) {
			if section == x[0] {
				continue
			}
			l := []api.Line{
				{Section: x[0], Key: x[1], Value: "a", At: 1}, {Section: section, Key: x[1], Value: "a", At: 2},
				{Section: section, Key: x[1], At: 3}, {Section: section, Key: x[1], Value: "a", At: 4}, {Section: section, Key: x[1], At: 5},
			}
			checkAll(t, l, l)
			last := api.Line{Section: x[0], Key: x[1], At: 6}
			checkAll(t, expected(append(l, last)), l, []api.Line{last})
		}
	}
}

// P0.7: sections and keys are compared byte by byte: what differs from a known
// key removes no line of it, and none of its lines removes what differs.
func TestBytesAreCompared(t *testing.T) {
	for _, x := range slices.Concat(placesOf(listKeys), placesOf(singleKeys)) {
		s, k := x[0], x[1]
		l := []api.Line{{Section: s, Key: k, Value: "a"}}
		for _, other := range []place{{s, strings.ToLower(k)}, {s, strings.ToUpper(k)}, {s, k + " "}, {s, " " + k}, {s, k + "\x00"}, {s, k[1:]}, {s, k[:len(k)-1]}, {s, k + "s"},
			{strings.ToLower(s), k}, {s + " ", k}, {s + "\x00", k}, {s[1:], k}, {s + k[:1], k[1:]}, {s[:len(s)-1], s[len(s)-1:] + k}, {s + k, ""}, {"", s + k}, {k, s}} {
			line := api.Line{Section: other[0], Key: other[1]}
			if isIn(listKeys, line) || isIn(singleKeys, line) {
				t.Fatalf("%q is a known key", other)
			}
			l = append(l, line, line)
		}
		checkAll(t, l, l)
		last := api.Line{Section: s, Key: k}
		want := l[1:]
		if isIn(singleKeys, last) {
			want = append(slices.Clone(want), last)
		}
		checkAll(t, want, l, []api.Line{last})
	}
}

// P9.1: each key.

// sequences returns all sequences of up to the given number of values, each
// empty or not.
func sequences(length int) [][]string {
	l := [][]string{nil}
	for i := 0; i < len(l); i++ {
		if len(l[i]) < length {
			l = append(l, append(slices.Clone(l[i]), ""), append(slices.Clone(l[i]), "x y"))
		}
	}
	return l
}

func linesOf(at place, values []string) []api.Line {
	l := make([]api.Line, len(values))
	for i, value := range values {
		l[i] = api.Line{Section: at[0], Key: at[1], Value: value, At: i + 1}
	}
	return l
}

func TestTheKeysAreRead(t *testing.T) {
	if lists, singles := len(placesOf(listKeys)), len(placesOf(singleKeys)); lists != 26 || singles != 16 {
		t.Errorf("%d keys with List set and %d others, want 26 and 16", lists, singles)
	}
}

func TestEachListKey(t *testing.T) {
	for _, at := range placesOf(listKeys) {
		for _, values := range sequences(5) {
			l := linesOf(at, values)
			last := len(values) // behind the last empty value
			for last > 0 && values[last-1] != "" {
				last--
			}
			checkAll(t, l[last:], l)
		}
	}
}

func TestEachSingleKey(t *testing.T) {
	for _, at := range placesOf(singleKeys) {
		for _, values := range sequences(5) {
			l := linesOf(at, values)
			checkAll(t, l[max(0, len(l)-1):], l)
		}
	}
}

// All checks no value, and looks at no kind of unit.
func TestFaultyLines(t *testing.T) {
	checkMarked(t, `
		- Service Type=none
		- Socket Backlog=x
		- Unit DefaultDependencies=
		+ Unit Wants=no name
		+ Service ExecStart='
		/
		+ Timer OnCalendar=never
		+ Unit DefaultDependencies=maybe
		+ Socket Backlog=65536
		+ Service Type=NONE
		+ Unit Wants=%`)
}

// P9.1: as a whole.

// Against the description in expected, for lines of few keys and of all keys.
func TestRandomLines(t *testing.T) {
	random := rand.New(rand.NewSource(91))
	all := slices.Concat(placesOf(listKeys), placesOf(singleKeys), []place{{"Unit", "Odd"}, {"None", "Wants"}, {"Service", "Wants"}, {"", ""}})
	for range 3000 {
		some := make([]place, 1+random.Intn(5))
		for i := range some {
			some[i] = all[random.Intn(len(all))]
		}
		if random.Intn(10) == 0 {
			some = all
		}
		lists := make([][]api.Line, random.Intn(6))
		for i := range lists {
			for range random.Intn(12) {
				at := some[random.Intn(len(some))]
				value := []string{"", "a", "b"}[random.Intn(3)]
				lists[i] = append(lists[i], api.Line{Section: at[0], Key: at[1], Value: value, At: random.Intn(30)})
			}
		}
		checkAll(t, expected(slices.Concat(lists...)), lists...)
	}
}

// The same list may come more than once.
func TestSameListTwice(t *testing.T) {
	lists, _ := marked("- Unit Wants=\n+ Unit Wants=a\n+ Unit Description=x\n+ Unit Odd=1")
	l := lists[0]
	checkAll(t, []api.Line{l[3], l[1], l[2], l[3]}, l, l)
	checkAll(t, []api.Line{l[3], l[3], l[1], l[2], l[3]}, l, l, l)
}

// General rules

// P0.1: every call ends, also with long arguments.
func TestLongLists(t *testing.T) {
	const length = 1 << 16
	many := func(section, key, value string) []api.Line {
		return slices.Repeat([]api.Line{{Section: section, Key: key, Value: value}}, length)
	}
	checkAll(t, nil, many("Unit", "Wants", ""))
	checkAll(t, many("Unit", "Wants", "a"), many("Unit", "Wants", "a"))
	checkAll(t, many("Unit", "Wants", "a"), many("Unit", "Wants", "b"), many("Unit", "Wants", ""), many("Unit", "Wants", "a"))
	checkAll(t, many("Unit", "Description", "y")[:1], many("Unit", "Description", "x"), many("Unit", "Description", "y"))
	checkAll(t, many("", "", ""), many("", "", ""))
	checkAll(t, nil, make([][]api.Line, length)...)
	checkAll(t, many("Unit", "Odd", ""), slices.Repeat([][]api.Line{many("Unit", "Odd", "")[:1]}, length)...)

	long := strings.Repeat("Unit", length)
	l := slices.Repeat([]api.Line{{Section: long, Key: long, Value: long}, {Section: "Unit", Key: long}, {Section: long, Key: "Wants"}, {Section: "Unit", Key: "Wants", Value: long}}, 2)
	checkAll(t, l, l)
}

// P0.1: many different keys are no more than many lines.
func TestManyKeys(t *testing.T) {
	l := make([]api.Line, 1<<16)
	for i := range l {
		l[i] = api.Line{Section: "Unit", Key: "k" + fmt.Sprint(i)}
	}
	checkAll(t, slices.Concat(l, l), l, l)
}

// P0.3: All keeps and changes nothing of its arguments, not even behind their ends.
func TestArgumentsAreLeft(t *testing.T) {
	text := "+ Unit Wants=a\n- Unit Description=x\n+ Unit Odd=1\n- Unit Wants=\n+ Unit Description=y\n+ Unit Wants=b\n+ Unit Odd="
	lists, _ := marked(text)
	l := lists[0]
	before := slices.Clone(l)
	args := [][]api.Line{l[:2], l[2:5], nil, l}
	got := blend.All(args[:2]...)
	want := []api.Line{before[2], before[4]}
	checkLines(t, got, want, before[:5])
	if !slices.Equal(l, before) {
		t.Errorf("the lines are now %+v", l)
	}
	if len(args[0]) != 2 || &args[0][0] != &l[0] || len(args[1]) != 3 || &args[1][0] != &l[2] || args[2] != nil || len(args[3]) != len(l) {
		t.Errorf("the lists are now %+v", args)
	}
	for i := range l {
		l[i] = api.Line{Section: "Spoilt", Key: "Spoilt", Value: "spoilt"}
	}
	args[1] = nil
	checkLines(t, got, want, l)
}

// P0.3: what a caller writes into one list changes no other one.
func TestListsAreNew(t *testing.T) {
	for _, text := range []string{"+ Unit Wants=a\n+ Unit Odd=1\n+ Unit Description=x", "- Unit Wants=\n+ Unit Wants=a\n+ Unit Odd=", "+ Unit Wants=a\n/\n+ Unit Wants=b\n/\n/\n+ Unit Odd=", "/\n+ Unit Description=x\n/"} {
		lists, want := marked(text)
		before := slices.Concat(lists...)
		first, second := blend.All(lists...), blend.All(lists...)
		first = first[:cap(first)]
		for i := range first {
			first[i] = api.Line{Section: "Spoilt", Key: "Spoilt", Value: "spoilt"}
		}
		checkLines(t, second, want, lists...)
		if now := slices.Concat(lists...); !slices.Equal(now, before) {
			t.Errorf("the arguments are now %+v", now)
		}
		checkAll(t, want, lists...)
	}
}

// P0.4: nil and an empty list are the same.
func TestNilAndEmpty(t *testing.T) {
	checkAll(t, nil)
	checkAll(t, nil, [][]api.Line{}...)
	checkAll(t, nil, nil)
	checkAll(t, nil, []api.Line{})
	checkAll(t, nil, nil, []api.Line{}, nil)
	l := []api.Line{{Section: "Unit", Key: "Wants", Value: "a", At: 1}, {Section: "Unit", Key: "Wants", Value: "b", At: 1}}
	for _, empty := range [][]api.Line{nil, {}, l[:0]} {
		checkAll(t, l, empty, l)
		checkAll(t, l, l, empty)
		checkAll(t, l, l[:1], empty, empty, l[1:])
	}
}

// P0.5: a call answers the same whatever was called before it or is called beside it.
func TestNothingIsKept(t *testing.T) {
	lists, want := marked("- Unit Wants=a\n+ Unit Odd=\n/\n- Unit Wants=\n- Unit Description=x\n/\n+ Unit Wants=b\n+ Unit Description=\n+ Unit Odd=")
	var group sync.WaitGroup
	for range 8 {
		group.Go(func() {
			for range 200 {
				checkAll(t, want, lists...)
				checkAll(t, []api.Line{want[0]}, []api.Line{want[0]})
				checkAll(t, nil)
			}
		})
	}
	group.Wait()
}
