package render_test

import (
	"math/rand"
	"reflect"
	"slices"
	"strconv"
	"strings"
	"testing"

	"matins/api"
	"matins/keys"
	"matins/lines"
	"matins/name"
	"matins/render"
	"matins/span"
	"matins/unit"
	"matins/words"
)

// fieldOf has the field of each key, except the keys of relations.
var fieldOf = map[string]string{
	"Unit Description": "Desc", "Unit DefaultDependencies": "Default", "Unit StartLimitIntervalSec": "Every", "Unit StartLimitBurst": "Burst",
	"Service Type": "Type", "Service ExecStartPre": "Pre", "Service ExecStart": "Start", "Service ExecStartPost": "Post", "Service ExecStop": "Stop", "Service ExecReload": "Reload",
	"Service RemainAfterExit": "Remain", "Service Restart": "Restart", "Service RestartSec": "Pause", "Service TimeoutStartSec": "Up", "Service TimeoutStopSec": "Down",
	"Service SuccessExitStatus": "Success", "Service Environment": "Env", "Service Sockets": "Sockets",
	"Socket ListenStream": "Ports", "Socket Backlog": "Backlog", "Socket FileDescriptorName": "FdName", "Socket Service": "Unit",
	"Timer OnBootSec": "Boot", "Timer OnActiveSec": "Active", "Timer OnUnitInactiveSec": "Idle", "Timer OnCalendar": "Calendar", "Timer Persistent": "Persistent", "Timer Unit": "Unit",
	"Install WantedBy": "WantedBy", "Install RequiredBy": "RequiredBy", "Install Alias": "Alias", "Install Also": "Also", "Install DefaultInstance": "Instance",
}

// sectionsOf has the sections of units of each kind.
var sectionsOf = map[int][]string{
	api.KService: {"Unit", "Service", "Install"}, api.KSocket: {"Unit", "Socket", "Install"},
	api.KTimer: {"Unit", "Timer", "Install"}, api.KTarget: {"Unit", "Install"},
}

// wordsOf has the words that stand for the numbers of a field.
var wordsOf = map[string]map[int64]string{
	"Type":    {api.TSimple: "simple", api.TOneshot: "oneshot", api.TNotify: "notify"},
	"Restart": {api.WNo: "no", api.WSuccess: "on-success", api.WFailure: "on-failure", api.WAbnormal: "on-abnormal", api.WAlways: "always"},
}

// fieldsOf returns the fields that the keys for units of a kind set.
func fieldsOf(kind int) []string {
	fields := []string{"Rels"}
	for key, field := range fieldOf {
		section, _, _ := strings.Cut(key, " ")
		if slices.Contains(sectionsOf[kind], section) {
			fields = append(fields, field)
		}
	}
	return fields
}

// expectedLines returns the encoding of a unit, in which only the numbers of the
// lines are missing.
func expectedLines(u api.Unit) []api.Line {
	v, plain := reflect.ValueOf(u), reflect.ValueOf(unit.New(u.Name))
	var l []api.Line
	for _, k := range keys.All() {
		if !slices.Contains(sectionsOf[name.Kind(u.Name)], k.Section) {
			continue
		}
		add := func(key, value string) {
			l = append(l, api.Line{Section: k.Section, Key: key, Value: strings.Join(strings.Split(value, "%"), "%%")})
		}
		name, known := fieldOf[k.Section+" "+k.Name]
		switch {
		case k.Name == "Requires":
			for _, r := range u.Rels {
				add(keyOf(r.Kind), r.Name)
			}
		case known && k.List:
			field := v.FieldByName(name)
			for i := range field.Len() {
				add(k.Name, expectedValue(k, field.Index(i)))
			}
		case known && !v.FieldByName(name).Equal(plain.FieldByName(name)):
			add(k.Name, expectedValue(k, v.FieldByName(name)))
		}
	}
	return l
}

// keyOf returns the key of the relations of a kind, or "".
func keyOf(kind int) string {
	if kind < 1 || kind > len(relations) {
		return ""
	}
	return relations[kind-1]
}

// expectedValue returns the value of a line of a key, by the form of the key.
func expectedValue(k api.Key, v reflect.Value) string {
	switch k.Form {
	case api.VBool:
		return map[bool]string{true: "yes", false: "no"}[v.Bool()]
	case api.VInt, api.VInts:
		return strconv.FormatInt(v.Int(), 10)
	case api.VSpan:
		return span.Print(int(v.Int()))
	case api.VWord:
		return wordsOf[k.Name][v.Int()]
	case api.VExec:
		e := v.Interface().(api.Exec)
		return strings.Repeat("-", map[bool]int{true: 1}[e.Dash]) + words.Join(e.Words)
	case api.VEnv:
		p := v.Interface().(api.Pair)
		return words.Join([]string{strings.Join([]string{p.Name, p.Value}, "=")})
	}
	return v.String()
}

// expectedText returns the text of lines.
func expectedText(l []api.Line) string {
	var b strings.Builder
	for i, line := range l {
		if i > 0 && line.Section != l[i-1].Section {
			b.WriteString("\n")
		}
		if i == 0 || line.Section != l[i-1].Section {
			b.WriteString("[" + line.Section + "]\n")
		}
		b.WriteString(line.Key + "=" + line.Value + "\n")
	}
	return b.String()
}

// checkModel checks all that is promised for a unit against the model, and
// returns whether the unit can be encoded.
func checkModel(t *testing.T, u api.Unit) bool {
	t.Helper()
	l := expectedLines(u)
	decoded, fault := unit.Make(u.Name, l)
	if !lines.May(l) || fault != (api.Fault{}) || !reflect.DeepEqual(normal(decoded), normal(u)) {
		checkRefused(t, u)
		return false
	}
	text := expectedText(l)
	for i := range l {
		// All lines before this one, and its own header, end before it.
		l[i].At = strings.Count(expectedText(l[:i+1]), "\n")
	}
	if got := render.Lines(u); !slices.Equal(got, l) {
		t.Errorf("Lines(%+v) = %+v, want %+v", u, got, l)
	}
	checkText(t, u, text)
	return true
}

// normal returns a unit with nil for each empty list, those of the commands
// included.
func normal(u api.Unit) api.Unit {
	v := reflect.ValueOf(&u).Elem()
	for i := range v.NumField() {
		if field := v.Field(i); field.Kind() == reflect.Slice && field.Len() == 0 {
			field.SetZero()
		}
	}
	for _, list := range commandLists {
		*list(&u) = slices.Clone(*list(&u))
		for i, e := range *list(&u) {
			if len(e.Words) == 0 {
				(*list(&u))[i].Words = nil
			}
		}
	}
	return u
}

// Values that the tests give to fields: those that units may have, of all kinds,
// and some others.
var (
	goodTexts     = []any{"", "x", "a b", "100%", "%n", "é\t'\"\\x", "-"}
	goodNames     = []any{[]string{"b.service"}, []string{"x.target", "b@c.socket", "a.service"}, []string{`d\x20.timer`, "b.service"}}
	goodCommands  = []any{commands("/a"), []api.Exec{{Dash: true, Words: []string{"-a", "", "b c", "%i", "\x00\xff"[1:]}}}, commands("/a", "/b", "/a")}
	goodSpans     = []any{0, 1, 10, 90, 3600, 1 << 40}
	goodSpanLists = []any{[]int{0}, []int{7, 7, 1 << 40}, []int{90, 5}}
	badTexts      = []any{" ", "x\n", `\`, "\x00", strings.Repeat("%", 200)}
	badNames      = []any{[]string{""}, []string{"b@.service"}, []string{"x.target", "x.target"}, []string{"x.target", "b.service c.service"}, []string{"%n"}}
	badCommands   = []any{commands(""), []api.Exec{{}}, []api.Exec{{Dash: true}}, commands("/a", "\x00"), commands(strings.Repeat("x", 400))}
	badSpans      = []any{-1, 1<<40 - 1, 1 << 41}
	badSpanLists  = []any{[]int{-1}, []int{-1, 5}, make([]int, 17)}
)

// goodFor returns values for a field that differ from the zero one, some of which
// a unit may have.
func goodFor(field string) []any {
	switch field {
	case "Desc", "FdName", "Instance":
		return goodTexts[1:]
	case "Default", "Remain", "Persistent":
		return []any{true}
	case "Rels":
		return []any{[]api.Rel{{Kind: 8, Name: "b.target"}}, []api.Rel{{Kind: 9, Name: "b.target"}, {Kind: 1, Name: "b.target"}, {Kind: 9, Name: "a@b.timer"}}, []api.Rel{{Kind: 1, Name: "b.target"}, {Kind: 2, Name: "b.target"}, {Kind: 3, Name: "b.target"}, {Kind: 4, Name: "b.target"}, {Kind: 5, Name: "b.target"}, {Kind: 6, Name: "b.target"}, {Kind: 7, Name: "b.target"}}}
	case "Every", "Pause", "Up", "Down":
		return goodSpans[1:]
	case "Burst", "Backlog":
		return []any{5, 16, 65535}
	case "Type", "Restart":
		return []any{1, 2, 3}
	case "Pre", "Start", "Post", "Stop", "Reload":
		return goodCommands
	case "Success", "Ports":
		return []any{[]int{3}, []int{65535, 1}, []int{2, 3, 1}}
	case "Env":
		return []any{[]api.Pair{{Name: "A", Value: "x"}}, []api.Pair{{Name: "B"}, {Name: "A", Value: "x y%%"}, {Name: "C", Value: "$A=\xff"}}}
	case "Unit":
		return []any{"b.service", "a@b.service"}
	case "Boot", "Active", "Idle":
		return goodSpanLists
	case "Calendar":
		return []any{[]string{"daily"}, []string{"Mon", "*:05", "Mon"}}
	}
	return goodNames
}

// badFor returns values for a field that few units or none may have.
func badFor(field string) []any {
	switch field {
	case "Name":
		return []any{"", "a", "a@.service", "b.target", "b.socket"}
	case "Kind":
		return []any{0, 1, 2, 3, 4, 5}
	case "Desc", "FdName", "Instance":
		return badTexts
	case "Default", "Remain", "Persistent":
		return []any{false}
	case "Rels":
		return []any{[]api.Rel{{Kind: 0, Name: "b.target"}}, []api.Rel{{Kind: 10, Name: "b.target"}}, []api.Rel{{Kind: 1, Name: "a.service"}}, []api.Rel{{Kind: 1}}}
	case "Every", "Pause", "Up", "Down":
		return badSpans
	case "Burst", "Backlog", "Type", "Restart":
		return []any{-1, 0, 65536, 4, 5}
	case "Pre", "Start", "Post", "Stop", "Reload":
		return badCommands
	case "Success", "Ports":
		return []any{[]int{0}, []int{-1}, []int{1, 1}, []int{1, 65536}}
	case "Env":
		return []any{[]api.Pair{{}}, []api.Pair{{Name: "A"}, {Name: "A"}}, []api.Pair{{Name: "A=", Value: "x"}}, []api.Pair{{Name: "A", Value: "\x00"}}}
	case "Unit":
		return []any{"b.target", "x", " "}
	case "Boot", "Active", "Idle":
		return badSpanLists
	case "Calendar":
		return []any{[]string{""}, []string{"x"}, []string{"daily", " daily"}}
	}
	return badNames
}

// Each field, alone, with each value.
func TestEachField(t *testing.T) {
	may, mayNot := 0, 0
	for kind := range nameOf {
		for _, field := range reflect.VisibleFields(reflect.TypeFor[api.Unit]()) {
			values := badFor(field.Name)
			if field.Name != "Name" && field.Name != "Kind" {
				values = append(slices.Clone(values), goodFor(field.Name)...)
			}
			for _, value := range values {
				u := sound(kind)
				reflect.ValueOf(&u).Elem().FieldByIndex(field.Index).Set(reflect.ValueOf(value))
				if checkModel(t, u) {
					may++
				} else {
					mayNot++
				}
			}
		}
	}
	if may < 150 || mayNot < 150 {
		t.Errorf("%d units may be encoded, %d may not", may, mayNot)
	}
}

// someUnit returns a unit many fields of which are set, and rarely wrong.
func someUnit(random *rand.Rand) api.Unit {
	kind := 1 + random.Intn(4)
	u := sound(kind)
	if random.Intn(3) == 0 {
		u.Name = strings.Replace(u.Name, "a", "a@x-y", 1)
	}
	v := reflect.ValueOf(&u).Elem()
	for i := range v.NumField() {
		field := v.Type().Field(i).Name
		values := badFor(field)
		if random.Intn(100) > 0 {
			if !slices.Contains(fieldsOf(kind), field) || random.Intn(2) == 0 {
				continue
			}
			values = goodFor(field)
		}
		v.Field(i).Set(reflect.ValueOf(values[random.Intn(len(values))]))
	}
	return u
}

func TestRandomUnits(t *testing.T) {
	random := rand.New(rand.NewSource(11))
	may := map[bool]int{}
	for range 6000 {
		may[checkModel(t, someUnit(random))]++
	}
	if may[true] < 2000 || may[false] < 1000 {
		t.Errorf("%d units may be encoded, %d may not", may[true], may[false])
	}
}

// Every unit that unit.Make decodes from a text may be encoded, whatever that
// text looked like, as long as its own text is not too long.
func TestTextsOfDecodedUnits(t *testing.T) {
	for _, x := range []struct{ name, text, want string }{
		{"a.target", "", ""},
		{"a.target", "# nothing\n\n[Unit]\n[Install]\n", ""},
		{"a.target", "[Unit]\nDefaultDependencies=true\nStartLimitBurst=00005\nStartLimitIntervalSec=10sec\nDescription=\n", ""},
		{"a.target", "[Install]\nAlias=b.target  c.target b.target\n[Unit]\nWants=b.target a.target\nDefaultDependencies=0\n[Unit]\nDescription=x \\\n y\nWants=b.target\n", "[Unit]\nDescription=x   y\nDefaultDependencies=no\nWants=b.target\n\n[Install]\nAlias=b.target\nAlias=c.target\n"},
		{"a@b-c.service", "[Service]\nExecStart=  - /a '%i' \"%I\" %%i\nEnvironment=A=1 'B=%p %%p' A=2\nSuccessExitStatus=01 2 1\nType=simple\nRestart=no\nTimeoutStopSec=1min 30\n", "[Service]\nExecStart=-/a b-c b/c %%i\nSuccessExitStatus=1\nSuccessExitStatus=2\nEnvironment=\"B=a %%p\"\nEnvironment=A=2\n"},
		{"a.socket", "[Socket]\nService=b.service\nListenStream=080 81\nListenStream=\nListenStream=82 83\nBacklog=16\n", "[Socket]\nListenStream=82\nListenStream=83\nService=b.service\n"},
		{"a.timer", "[Timer]\nUnit=b.target\nOnCalendar=Mon..Tue\nOnBootSec=90 1m\nOnBootSec=0\nPersistent=1\n", "[Timer]\nOnBootSec=2min 30s\nOnBootSec=0\nOnCalendar=Mon..Tue\nPersistent=yes\nUnit=b.target\n"},
	} {
		u := decode(t, x.name, x.text)
		checkText(t, u, x.want)
		checkModel(t, u)
	}
	// What a specifier stands for can be what no text has.
	l := []api.Line{{Section: "Unit", Key: "Description", Value: "%I"}}
	for instance, may := range map[string]bool{`b\x09c`: true, `b\x0ac`: false, `\x20`: false, `b\x5c`: false, `\x25n`: true} {
		u, fault := unit.Make("a@"+instance+".target", l)
		if fault != (api.Fault{}) || checkModel(t, u) != may {
			t.Errorf("%+v, fault %+v: whether it may be encoded is not %v", u, fault, may)
		}
	}
}
