package unit_test

import (
	"math/rand"
	"reflect"
	"regexp"
	"slices"
	"strconv"
	"strings"
	"testing"

	"matins/api"
	"matins/expand"
	"matins/keys"
	"matins/span"
	"matins/unit"
	"matins/words"
)

// fieldOf has the field that each key sets or adds to, as the chapter's table
// has it; Rels are left out.
var fieldOf = map[string]string{
	"Description": "Desc", "FileDescriptorName": "FdName", "DefaultInstance": "Instance",
	"DefaultDependencies": "Default", "RemainAfterExit": "Remain", "Persistent": "Persistent",
	"StartLimitIntervalSec": "Every", "StartLimitBurst": "Burst", "Type": "Type", "Restart": "Restart",
	"RestartSec": "Pause", "TimeoutStartSec": "Up", "TimeoutStopSec": "Down",
	"ExecStartPre": "Pre", "ExecStart": "Start", "ExecStartPost": "Post", "ExecStop": "Stop", "ExecReload": "Reload",
	"Environment": "Env", "Sockets": "Sockets", "WantedBy": "WantedBy", "RequiredBy": "RequiredBy", "Alias": "Alias", "Also": "Also",
	"SuccessExitStatus": "Success", "ListenStream": "Ports", "Backlog": "Backlog", "Service": "Unit", "Unit": "Unit",
	"OnBootSec": "Boot", "OnActiveSec": "Active", "OnUnitInactiveSec": "Idle", "OnCalendar": "Calendar",
}

var (
	template = regexp.MustCompile(`@\.[a-z]+$`)
	element  = regexp.MustCompile(`[^ ]+`)
)

// expectedMake returns what Make is to return. It looks at all lines before each
// line together, instead of changing a unit line by line.
func expectedMake(name string, l []api.Line) (api.Unit, api.Fault) {
	none := api.Unit{}
	u := unit.New(name)
	if u.Name == "" || template.MatchString(name) {
		return none, api.Fault{Code: api.ErrName}
	}
	var read []api.Line // with their specifiers replaced
	for _, line := range l {
		value, err := expand.Spec(line.Value, name)
		if err != api.OK {
			return none, api.Fault{Code: err, At: line.At}
		}
		line.Value = value
		if fault := keys.Check(u.Kind, []api.Line{line}); fault.Code != api.OK {
			return none, fault
		}
		isZero := func(s string) bool { return strings.Trim(s, "0") == "" }
		if line.Key == "ListenStream" && slices.ContainsFunc(element.FindAllString(value, -1), isZero) || line.Key == "Service" && !strings.HasSuffix(value, ".service") {
			return none, api.Fault{Code: api.ErrValue, At: line.At}
		}
		read = append(read, line)
		u = expectedUnit(name, read)
		if isLong(u) {
			return none, api.Fault{Code: api.ErrLong, At: line.At}
		}
	}
	switch {
	case u.Kind == api.KService && len(u.Start) == 0, u.Kind == api.KSocket && len(u.Ports) == 0,
		u.Kind == api.KTimer && len(u.Boot) == 0 && len(u.Active) == 0 && len(u.Idle) == 0 && len(u.Calendar) == 0:
		return none, api.Fault{Code: api.ErrNone}
	case u.Kind == api.KService && len(u.Start) > 1 && u.Type != api.TOneshot:
		return none, api.Fault{Code: api.ErrTwice}
	}
	return u, api.Fault{}
}

// isLong reports whether a list of u is too long.
func isLong(u api.Unit) bool {
	v, long := reflect.ValueOf(u), false
	for i := range v.NumField() {
		most := 16
		if v.Type().Field(i).Name == "Rels" {
			most = 64
		}
		long = long || v.Field(i).Kind() == reflect.Slice && v.Field(i).Len() > most
	}
	return long
}

// expectedUnit returns what sound lines make of a unit.
func expectedUnit(name string, l []api.Line) api.Unit {
	u := unit.New(name)
	var counted []api.Line // those that no empty line of their key follows
	for i, line := range l {
		empties := func(x api.Line) bool { return x.Key == line.Key && x.Value == "" }
		k, _ := keys.Find(line.Section, line.Key)
		if !k.List || !slices.ContainsFunc(l[i:], empties) {
			counted = append(counted, line)
		}
	}
	for _, line := range counted {
		if kind := slices.Index(relations, line.Key) + 1; kind > 0 {
			for _, other := range element.FindAllString(line.Value, -1) {
				u.Rels = append(u.Rels, api.Rel{Kind: kind, Name: other})
			}
			continue
		}
		field := reflect.ValueOf(&u).Elem().FieldByName(fieldOf[line.Key])
		value := reflect.ValueOf(expectedValue(line))
		if k, _ := keys.Find(line.Section, line.Key); k.List {
			value = reflect.AppendSlice(field, value)
		}
		field.Set(value)
	}
	u.Rels = slices.DeleteFunc(firsts(u.Rels), func(r api.Rel) bool { return r.Name == name })
	u.Success, u.Ports, u.Sockets = firsts(u.Success), firsts(u.Ports), firsts(u.Sockets)
	u.WantedBy, u.RequiredBy, u.Alias, u.Also = firsts(u.WantedBy), firsts(u.RequiredBy), firsts(u.Alias), firsts(u.Also)
	u.Env = lasts(u.Env)
	return u
}

// firsts returns the elements of l that have no equal one before them.
func firsts[T comparable](l []T) []T {
	var result []T
	for i, x := range l {
		if slices.Index(l, x) == i {
			result = append(result, x)
		}
	}
	return result
}

// lasts returns the pairs of l that have none of their name behind them.
func lasts(l []api.Pair) []api.Pair {
	var result []api.Pair
	for i, x := range l {
		isSame := func(y api.Pair) bool { return y.Name == x.Name }
		if !slices.ContainsFunc(l[i+1:], isSame) {
			result = append(result, x)
		}
	}
	return result
}

// expectedValue returns what the value of a line denotes: for a key with a list,
// a list.
func expectedValue(line api.Line) any {
	k, _ := keys.Find(line.Section, line.Key)
	switch k.Form {
	case api.VBool:
		return slices.Contains([]string{"yes", "true", "1"}, line.Value)
	case api.VInt:
		return numbersOf(line.Value)[0]
	case api.VInts:
		return numbersOf(line.Value)
	case api.VNames:
		return element.FindAllString(line.Value, -1)
	case api.VWord:
		return slices.Index(k.Words, line.Value) + 1
	case api.VCal:
		return []string{line.Value}
	case api.VSpan:
		n, _ := span.Parse(line.Value)
		if k.List {
			return []int{n}
		}
		return n
	case api.VExec:
		dash := line.Value[0] == '-'
		if dash {
			line.Value = line.Value[1:]
		}
		l, _ := words.Split(line.Value)
		return []api.Exec{{Dash: dash, Words: l}}
	case api.VEnv:
		var pairs []api.Pair
		l, _ := words.Split(line.Value)
		for _, word := range l {
			i := strings.Index(word, "=")
			pairs = append(pairs, api.Pair{Name: word[:i], Value: word[i+1:]})
		}
		return pairs
	}
	return line.Value
}

func numbersOf(s string) []int {
	var l []int
	for _, digits := range element.FindAllString(s, -1) {
		n, err := strconv.ParseInt(digits, 10, 32)
		if err != nil {
			panic(err)
		}
		l = append(l, int(n))
	}
	return l
}

// someNames are unit names, the first eight of them for the units themselves.
var someNames = []string{"a.service", "a@b.service", "a@5.socket", "b.socket", "7@b.timer", "b.timer", `yes@x\x20y.target`, "b.target", "%p.service", "%n", "c.service", "c.target", "d@e.service"}

// someValues are values of the forms that have neither names nor words.
var someValues = map[int][]string{
	api.VText: {"", "x", "%n %%", "%I", " "}, api.VBool: {"yes", "no", "true", "false", "1", "0"}, api.VInt: {"0", "3", "65535", "00012"},
	api.VInts: {"1", "3 4 3", "  7 5", "03", "1 2 3 4 5 6 7 8", "9 10 11 12 13", "14 20", "15", "16"}, api.VSpan: {"0", "5", "1min 2s", "infinity"},
	api.VCal: {"daily", "Mon", "*:05", "Mon..Fri 8:30"}, api.VExec: {"/a", "-/b '%p'", "/c -d %%i", "- /a"}, api.VEnv: {"A=1", "B=2 A=3", "C='%n' D= A=4", "E=5 F=6 G=7", "H=1 I=2 J=3 K=4 L=5 M=6", "N=1 O=2 P=3 Q=4"},
}

// someValue returns a value of a key, which is rarely wrong.
func someValue(random *rand.Rand, k api.Key) string {
	switch k.Form {
	case api.VWord:
		return k.Words[random.Intn(len(k.Words))]
	case api.VName:
		return someNames[random.Intn(len(someNames))]
	case api.VNames:
		var l []string
		for range 1 + random.Intn(4) {
			l = append(l, someNames[random.Intn(len(someNames))], "x"+strconv.Itoa(random.Intn(30))+".target")
		}
		return strings.Join(l[random.Intn(2):], " ")
	}
	return someValues[k.Form][random.Intn(len(someValues[k.Form]))]
}

// someLine returns a line of a key for units of a kind, which is rarely wrong.
func someLine(random *rand.Rand, kind int, all []api.Key) api.Line {
	k := all[random.Intn(len(all))]
	for k.Kinds>>kind&1 == 0 && random.Intn(200) > 0 {
		k = all[random.Intn(len(all))]
	}
	line := api.Line{Section: k.Section, Key: k.Name, Value: someValue(random, k), At: random.Intn(100)}
	switch random.Intn(300) {
	case 0:
		line.Key += "s"
	case 1:
		line.Value += "%"
	case 2:
		line.Value = "0"
	case 3:
		line.Value = "%p"
	case 4:
		line.Value = "%i"
	case 5, 6, 7, 8, 9, 10:
		line.Value = ""
	}
	return line
}

func TestRandomUnits(t *testing.T) {
	random := rand.New(rand.NewSource(10))
	faults := map[api.Errno]int{}
	for range 6000 {
		name := someNames[random.Intn(8)]
		kind := unit.New(name).Kind
		all, length := keys.All(), random.Intn(20)
		if random.Intn(3) == 0 {
			// More lines of few keys, so that each of these comes often.
			isLeftOut := func(k api.Key) bool { return !k.List || random.Intn(10) > 0 }
			all, length = append(slices.DeleteFunc(all, isLeftOut), keys.All()[2]), random.Intn(60)
		}
		l := linesOf(sound[kind].text)[random.Intn(20)/19:]
		for range length {
			l = append(l, someLine(random, kind, all))
		}
		want, wantFault := expectedMake(name, l)
		got, fault := unit.Make(name, l)
		if fault != wantFault || !alike(got, want) {
			t.Fatalf("Make(%q, %+v) = %+v, %+v, want %+v, %+v", name, l, got, fault, want, wantFault)
		}
		if !unit.Same(got, want) {
			t.Fatalf("%+v is not the same as %+v", got, want)
		}
		faults[fault.Code]++
	}
	for _, err := range []api.Errno{api.OK, api.ErrSpec, api.ErrSection, api.ErrKey, api.ErrValue, api.ErrLong, api.ErrNone, api.ErrTwice} {
		if faults[err] < 20 {
			t.Errorf("error %d came %d times", err, faults[err])
		}
	}
	if faults[api.OK] < 2000 {
		t.Errorf("only %d units without a fault", faults[api.OK])
	}
}

// Each key has its own field, and changes no other one.
func TestEachKeyHasItsField(t *testing.T) {
	random := rand.New(rand.NewSource(11))
	for _, k := range keys.All() {
		for kind, name := range nameOf {
			if k.Kinds>>kind&1 == 0 {
				continue
			}
			for range 20 {
				value := someValue(random, k)
				l := append(linesOf(sound[kind].text), api.Line{Section: k.Section, Key: k.Name, Value: value})
				want, wantFault := expectedMake(name, l)
				if got, fault := unit.Make(name, l); fault != wantFault || !alike(got, want) {
					t.Errorf("Make(%q, %+v) = %+v, %+v, want %+v, %+v", name, l, got, fault, want, wantFault)
				}
			}
		}
	}
	if len(fieldOf)+len(relations) != len(keys.All()) {
		t.Errorf("%d fields and %d relations for %d keys", len(fieldOf), len(relations), len(keys.All()))
	}
}
