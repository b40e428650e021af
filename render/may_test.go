package render_test

import (
	"fmt"
	"math"
	"reflect"
	"slices"
	"strconv"
	"strings"
	"testing"

	"matins/api"
	"matins/render"
	"matins/unit"
)

// printed returns a value as text, in messages of tests.
func printed(x any) string { return fmt.Sprintf("%+v", x) }

// checkMay checks that a unit can be encoded, and decoded again.
func checkMay(t *testing.T, u api.Unit) {
	t.Helper()
	if !render.May(u) {
		t.Errorf("%.3000s may not be encoded", printed(u))
		return
	}
	if again := decode(t, u.Name, render.Text(u)); !unit.Same(again, u) {
		t.Errorf("%.3000s is decoded from the text of %.3000s", printed(again), printed(u))
	}
}

// What lines.May refuses

func TestTextsThatNoLineHas(t *testing.T) {
	for _, value := range []string{" ", " x", "x ", "\t", "\tx", "x\t", `\`, `x\`, `x\\`, "a\nb", "\n", "x\n", "\x00", "a\x00", "a\rb", "\x1f", "\x7f", "a\x7fb", strings.Repeat("x", 1000)} {
		for kind := range nameOf {
			checkRefused(t, with(kind, func(u *api.Unit) { u.Desc = value }))
			checkRefused(t, with(kind, func(u *api.Unit) { u.Instance = value }))
		}
		checkRefused(t, with(api.KSocket, func(u *api.Unit) { u.FdName = value }))
	}
	for n := range 256 {
		value := "a" + string([]byte{byte(n)}) + "b"
		u := with(api.KSocket, func(u *api.Unit) { u.FdName = value })
		if n < 32 && n != 9 || n == 127 {
			checkRefused(t, u)
		} else {
			checkMay(t, u)
		}
	}
}

func TestLongLines(t *testing.T) {
	for _, x := range []struct {
		kind int
		key  string
		set  func(u *api.Unit, value string)
	}{
		{api.KTarget, "Description=", func(u *api.Unit, s string) { u.Desc = s }},
		{api.KTimer, "DefaultInstance=", func(u *api.Unit, s string) { u.Instance = s }},
		{api.KSocket, "FileDescriptorName=", func(u *api.Unit, s string) { u.FdName = s }},
		{api.KService, "ExecStart=", func(u *api.Unit, s string) { u.Start = commands(s) }},
		{api.KService, "ExecStop=-", func(u *api.Unit, s string) { u.Stop = []api.Exec{{Dash: true, Words: []string{s}}} }},
		{api.KService, "ExecReload=x ", func(u *api.Unit, s string) { u.Reload = []api.Exec{{Words: []string{"x", s}}} }},
		{api.KService, "Environment=A=", func(u *api.Unit, s string) { u.Env = []api.Pair{{Name: "A", Value: s}} }},
	} {
		most := 400 - len(x.key)
		set := func(value string) api.Unit { return with(x.kind, func(u *api.Unit) { x.set(u, value) }) }
		checkMay(t, set(strings.Repeat("x", most)))
		checkRefused(t, set(strings.Repeat("x", most+1)))
		// A doubled percent sign counts as two bytes.
		checkMay(t, set(strings.Repeat("%", most/2)))
		checkMay(t, set("%"+strings.Repeat("x", most-2)))
		checkRefused(t, set("%"+strings.Repeat("x", most-1)))
		checkRefused(t, set(strings.Repeat("%", most/2+1)))
	}
	// So do quotes, and escapes as four.
	start := func(word string) api.Unit { return with(api.KService, func(u *api.Unit) { u.Start = commands(word) }) }
	checkMay(t, start("-"+strings.Repeat("x", 387)))
	checkRefused(t, start("-"+strings.Repeat("x", 388)))
	checkMay(t, start(strings.Repeat("\xff", 97)))
	checkRefused(t, start(strings.Repeat("\xff", 98)))
	checkMay(t, start(strings.Repeat(`"`, 194)))
	checkRefused(t, start(strings.Repeat(`"`, 195)))
}

// long returns a service whose text has length bytes, if that is neither too few
// nor too many for it.
func long(length int) api.Unit {
	u := sound(api.KService)
	rest := length - len(render.Text(u))
	for _, key := range []string{"Service ExecStartPre", "Service ExecStartPost", "Service ExecStop", "Service ExecReload"} {
		around := len(strings.TrimPrefix(key, "Service ")) + len("=\n")
		list := commandLists[key](&u)
		for len(*list) < 16 && rest > 0 {
			line := 400
			if rest < 800 {
				line = (rest + 1) / 2
			}
			if rest <= 400 {
				line = rest
			}
			*list = append(*list, commands(strings.Repeat("x", line-around))...)
			rest -= line
		}
	}
	return u
}

func TestLongTexts(t *testing.T) {
	for _, length := range []int{19000, 19600, 19900, 19980, 19998, 19999, 20000} {
		u := long(length)
		checkMay(t, u)
		if got := len(render.Text(u)); got != length {
			t.Errorf("the text has %d bytes, not %d", got, length)
		}
	}
	// Headers count, and the empty lines before them.
	checkMay(t, longWith(20000-len("[Unit]\nDescription=x\n\n"), "x"))
	for _, u := range []api.Unit{long(20001), long(20002), long(20100), longWith(20000-len("[Unit]\nDescription=x\n"), "x"), longWith(20000, "x"), longWith(20000-len("[Unit]\nDescription=x\n\n"), "%")} {
		checkRefused(t, u)
	}
}

// longWith returns a service whose text without a description has length bytes.
func longWith(length int, description string) api.Unit {
	u := long(length)
	u.Desc = description
	return u
}

// What unit.Make refuses

func TestNamesOfNoUnit(t *testing.T) {
	for _, name := range []string{"", "a", "a.", ".service", "a.mount", "a.service ", "a b.service", "@.service", "@x.service", "a@b@c.service", "a@.service", "a@.target", "a@.timer", "a@.socket", "\x00", "%n.service", strings.Repeat("x", 53) + ".service", strings.Repeat("x", 1<<16) + ".target"} {
		checkRefused(t, api.Unit{Name: name})
		for kind := range nameOf {
			u := sound(kind)
			u.Name = name
			checkRefused(t, u)
			u = unit.New(name)
			u.Name, u.Rels = name, []api.Rel{{Kind: api.RAfter, Name: "b.service"}}
			checkRefused(t, u)
		}
	}
	checkRefused(t, api.Unit{})
}

func TestNamesOfUnits(t *testing.T) {
	for kind := range nameOf {
		suffix := strings.TrimPrefix(nameOf[kind], "a")
		for _, body := range []string{"b", "a@b", "a@.", ".", `\`, "a.timer", strings.Repeat("x", 60-len(suffix))} {
			checkMay(t, with(kind, func(u *api.Unit) { u.Name = body + suffix }))
			for other := range nameOf {
				if other != kind {
					u := sound(other)
					u.Name = body + suffix
					checkRefused(t, u)
				}
			}
		}
	}
}

// noNames are no names of units that others may have relations to.
var noNames = []string{"", "x", "b@.service", ".service", "b.mount", " b.service", "b.service ", "b.service c.service", "b.service,c.service", "%n", "%p.service", "b%.service", "\x00.service", strings.Repeat("x", 53) + ".service"}

func TestWrongNames(t *testing.T) {
	for _, name := range noNames {
		for kind := range nameOf {
			for _, l := range [][]string{{name}, {name, "c.service"}, {"c.service", name}} {
				for _, set := range []func(*api.Unit){
					func(u *api.Unit) { u.WantedBy = l }, func(u *api.Unit) { u.RequiredBy = l }, func(u *api.Unit) { u.Alias = l }, func(u *api.Unit) { u.Also = l },
				} {
					checkRefused(t, with(kind, set))
				}
				for i := range relations {
					checkRefused(t, with(kind, func(u *api.Unit) {
						for _, name := range l {
							u.Rels = append(u.Rels, api.Rel{Kind: i + 1, Name: name})
						}
					}))
				}
				checkRefused(t, with(api.KService, func(u *api.Unit) { u.Sockets = l }))
			}
		}
		if name != "" {
			checkRefused(t, with(api.KSocket, func(u *api.Unit) { u.Unit = name }))
			checkRefused(t, with(api.KTimer, func(u *api.Unit) { u.Unit = name }))
		}
	}
}

func TestWrongRelations(t *testing.T) {
	for kind, own := range nameOf {
		for _, rel := range []int{0, -1, 10, 11, math.MinInt, math.MaxInt} {
			for _, name := range []string{"b.service", "", own} {
				checkRefused(t, with(kind, func(u *api.Unit) { u.Rels = []api.Rel{{Kind: rel, Name: name}} }))
				checkRefused(t, with(kind, func(u *api.Unit) {
					u.Rels = []api.Rel{{Kind: api.RAfter, Name: "b.service"}, {Kind: rel, Name: name}, {Kind: api.RWants, Name: "b.service"}}
				}))
			}
		}
		for rel := 1; rel <= 9; rel++ {
			checkRefused(t, with(kind, func(u *api.Unit) { u.Rels = []api.Rel{{Kind: rel, Name: own}} }))
			checkRefused(t, with(kind, func(u *api.Unit) {
				u.Rels = []api.Rel{{Kind: rel, Name: "b.service"}, {Kind: rel, Name: "c.service"}, {Kind: rel, Name: "b.service"}}
			}))
		}
	}
}

func TestWrongNumbers(t *testing.T) {
	for _, n := range []int{-1, 65536, 1 << 16, 1<<32 + 1, math.MaxInt, math.MinInt} {
		for kind := range nameOf {
			checkRefused(t, with(kind, func(u *api.Unit) { u.Burst = n }))
		}
		checkRefused(t, with(api.KSocket, func(u *api.Unit) { u.Backlog = n }))
		checkRefused(t, with(api.KSocket, func(u *api.Unit) { u.Ports = []int{n} }))
		checkRefused(t, with(api.KSocket, func(u *api.Unit) { u.Ports = []int{1, n, 2} }))
		checkRefused(t, with(api.KService, func(u *api.Unit) { u.Success = []int{n} }))
		checkRefused(t, with(api.KService, func(u *api.Unit) { u.Success = []int{1, n, 2} }))
	}
	checkRefused(t, with(api.KSocket, func(u *api.Unit) { u.Ports = []int{0} }))
	checkRefused(t, with(api.KSocket, func(u *api.Unit) { u.Ports = []int{1, 0} }))
}

func TestWrongSpans(t *testing.T) {
	for _, n := range []int{-1, 6311433601, 1<<40 - 1, 1<<40 + 1, math.MaxInt, math.MinInt} {
		for kind := range nameOf {
			checkRefused(t, with(kind, func(u *api.Unit) { u.Every = n }))
		}
		for _, set := range []func(*api.Unit){func(u *api.Unit) { u.Pause = n }, func(u *api.Unit) { u.Up = n }, func(u *api.Unit) { u.Down = n }} {
			checkRefused(t, with(api.KService, set))
		}
		for _, l := range [][]int{{n}, {n, 5}, {5, n}} {
			for _, set := range []func(*api.Unit){func(u *api.Unit) { u.Boot = l }, func(u *api.Unit) { u.Active = l }, func(u *api.Unit) { u.Idle = l }} {
				checkRefused(t, with(api.KTimer, set))
			}
		}
	}
}

func TestWrongWords(t *testing.T) {
	for _, n := range []int{0, -1, 4, 6, 1 << 32, 1<<32 + 1, math.MaxInt, math.MinInt} {
		checkRefused(t, with(api.KService, func(u *api.Unit) { u.Type = n }))
		if n != 4 {
			checkRefused(t, with(api.KService, func(u *api.Unit) { u.Restart = n }))
		}
	}
	checkRefused(t, with(api.KService, func(u *api.Unit) { u.Type = 5 }))
}

func TestWrongCommands(t *testing.T) {
	for _, words := range [][]string{nil, {}, {""}, {"", "a"}, {"a\x00"}, {"a", "\x00"}, slices.Repeat([]string{"x"}, 33), slices.Repeat([]string{"x"}, 1000)} {
		for _, dash := range []bool{false, true} {
			wrong := api.Exec{Dash: dash, Words: words}
			for _, l := range [][]api.Exec{{wrong}, {wrong, {Words: []string{"/b"}}}, {{Words: []string{"/b"}}, wrong}} {
				for _, list := range commandLists {
					checkRefused(t, with(api.KService, func(u *api.Unit) { *list(u) = l }))
				}
			}
		}
	}
}

func TestWrongEnvironment(t *testing.T) {
	for _, p := range []api.Pair{{}, {Name: "", Value: "x"}, {Name: "1A", Value: "x"}, {Name: "A B", Value: "x"}, {Name: "A-B"}, {Name: "A=B", Value: "x"}, {Name: "=", Value: "x"}, {Name: "é"}, {Name: " A"}, {Name: "%n"}, {Name: "A", Value: "\x00"}, {Name: "A\x00"}, {Name: strings.Repeat("A", 61)}} {
		other := api.Pair{Name: "B", Value: "y"}
		for _, l := range [][]api.Pair{{p}, {p, other}, {other, p}} {
			checkRefused(t, with(api.KService, func(u *api.Unit) { u.Env = l }))
		}
	}
	checkMay(t, with(api.KService, func(u *api.Unit) { u.Env = []api.Pair{{Name: strings.Repeat("A", 60)}} }))
}

func TestWrongCalendars(t *testing.T) {
	for _, s := range []string{"", " ", "never", "Mon ", " Mon", "mon", "daily daily", "*-*-*  8:30", "%", "1999-01-01", "Mon\x00"} {
		for _, l := range [][]string{{s}, {s, "daily"}, {"daily", s}} {
			checkRefused(t, with(api.KTimer, func(u *api.Unit) { u.Calendar = l }))
		}
	}
}

// Units that lack what they are there for, and simple services with commands one
// after the other.
func TestWrongUnits(t *testing.T) {
	checkRefused(t, unit.New("a.service"))
	checkRefused(t, unit.New("a.socket"))
	checkRefused(t, unit.New("a.timer"))
	checkRefused(t, with(api.KService, func(u *api.Unit) { u.Start, u.Stop = nil, commands("/a") }))
	checkRefused(t, with(api.KSocket, func(u *api.Unit) { u.Ports, u.Backlog = nil, 1 }))
	checkRefused(t, with(api.KTimer, func(u *api.Unit) { u.Boot, u.Persistent = nil, true }))
	for _, x := range []struct {
		kind int
		may  bool
	}{{api.TSimple, false}, {api.TOneshot, true}, {api.TNotify, false}} {
		two := with(api.KService, func(u *api.Unit) { u.Type, u.Start = x.kind, commands("/a", "/b") })
		if x.may {
			checkMay(t, two)
		} else {
			checkRefused(t, two)
		}
		checkMay(t, with(api.KService, func(u *api.Unit) { u.Type, u.Stop = x.kind, commands("/a", "/b") }))
	}
}

func TestLongLists(t *testing.T) {
	numbers := func(n int) []int {
		var l []int
		for i := range n {
			l = append(l, i+1)
		}
		return l
	}
	names := func(n int) []string {
		var l []string
		for i := range n {
			l = append(l, "x"+strconv.Itoa(i)+".target")
		}
		return l
	}
	for _, x := range []struct {
		kind int
		set  func(u *api.Unit, n int)
	}{
		{api.KService, func(u *api.Unit, n int) { u.Pre = slices.Repeat(commands("/a"), n) }},
		{api.KService, func(u *api.Unit, n int) { u.Start = slices.Repeat(commands("/a"), n) }},
		{api.KService, func(u *api.Unit, n int) { u.Post = slices.Repeat(commands("/a"), n) }},
		{api.KService, func(u *api.Unit, n int) { u.Stop = slices.Repeat(commands("/a"), n) }},
		{api.KService, func(u *api.Unit, n int) { u.Reload = slices.Repeat(commands("/a"), n) }},
		{api.KService, func(u *api.Unit, n int) { u.Success = numbers(n) }},
		{api.KService, func(u *api.Unit, n int) { u.Sockets = names(n) }},
		{api.KService, func(u *api.Unit, n int) {
			for i := range n {
				u.Env = append(u.Env, api.Pair{Name: "A" + strconv.Itoa(i)})
			}
		}},
		{api.KSocket, func(u *api.Unit, n int) { u.Ports = numbers(n) }},
		{api.KTimer, func(u *api.Unit, n int) { u.Boot = numbers(n) }},
		{api.KTimer, func(u *api.Unit, n int) { u.Active = numbers(n) }},
		{api.KTimer, func(u *api.Unit, n int) { u.Idle = numbers(n) }},
		{api.KTimer, func(u *api.Unit, n int) { u.Calendar = slices.Repeat([]string{"daily"}, n) }},
		{api.KTarget, func(u *api.Unit, n int) { u.WantedBy = names(n) }},
		{api.KTimer, func(u *api.Unit, n int) { u.RequiredBy = names(n) }},
		{api.KSocket, func(u *api.Unit, n int) { u.Alias = names(n) }},
		{api.KService, func(u *api.Unit, n int) { u.Also = names(n) }},
	} {
		checkMay(t, with(x.kind, func(u *api.Unit) { x.set(u, 16) }))
		checkRefused(t, with(x.kind, func(u *api.Unit) { x.set(u, 17) }))
	}
	rels := func(n int) func(*api.Unit) {
		return func(u *api.Unit) {
			for i, name := range names(n) {
				u.Rels = append(u.Rels, api.Rel{Kind: i%9 + 1, Name: name})
			}
		}
	}
	for kind := range nameOf {
		checkMay(t, with(kind, rels(64)))
		checkRefused(t, with(kind, rels(65)))
	}
}

// What decodes to something else

func TestDoubles(t *testing.T) {
	for _, set := range []func(*api.Unit){
		func(u *api.Unit) { u.Success = []int{1, 1} },
		func(u *api.Unit) { u.Success = []int{1, 2, 1} },
		func(u *api.Unit) { u.Sockets = []string{"a.socket", "b.socket", "a.socket"} },
		func(u *api.Unit) { u.Env = []api.Pair{{Name: "A", Value: "1"}, {Name: "A", Value: "2"}} },
		func(u *api.Unit) {
			u.Env = []api.Pair{{Name: "A", Value: "1"}, {Name: "B", Value: "2"}, {Name: "A", Value: "1"}}
		},
		func(u *api.Unit) { u.WantedBy = []string{"b.target", "b.target"} },
		func(u *api.Unit) { u.RequiredBy = []string{"b.target", "b.target"} },
		func(u *api.Unit) { u.Alias = []string{"b.target", "b.target"} },
		func(u *api.Unit) { u.Also = []string{"b.target", "b.target"} },
	} {
		checkRefused(t, with(api.KService, set))
	}
	checkRefused(t, with(api.KSocket, func(u *api.Unit) { u.Ports = []int{80, 81, 80} }))
}

func TestOtherKinds(t *testing.T) {
	for kind := range nameOf {
		for _, other := range []int{0, 1, 2, 3, 4, 5, -1, kind + 1<<32, math.MaxInt, math.MinInt} {
			if other != kind {
				checkRefused(t, with(kind, func(u *api.Unit) { u.Kind = other }))
			}
		}
	}
}

// Fields that the keys for a kind do not set are as in the unit without lines.
func TestFieldsOfOtherKinds(t *testing.T) {
	count := 0
	for kind := range nameOf {
		u := sound(kind)
		fields := fieldsOf(kind)
		v := reflect.ValueOf(&u).Elem()
		for i := range v.NumField() {
			field := v.Type().Field(i).Name
			if field == "Name" || field == "Kind" || slices.Contains(fields, field) {
				continue
			}
			for _, value := range goodFor(field) {
				v.Field(i).Set(reflect.ValueOf(value))
				checkRefused(t, u)
				count++
			}
			v.Field(i).SetZero()
			checkMay(t, u)
		}
	}
	if count < 80 {
		t.Errorf("only %d units", count)
	}
}
