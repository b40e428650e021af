package unit_test

import (
	"reflect"
	"slices"
	"strconv"
	"strings"
	"sync"
	"testing"

	"matins/api"
	"matins/unit"
)

// Each function has the face that the chapter gives it.
var (
	_ func(string) api.Unit                          = unit.New
	_ func(string, []api.Line) (api.Unit, api.Fault) = unit.Make
	_ func(api.Unit, api.Unit) bool                  = unit.Same
	_ func(api.Unit) string                          = unit.Wakes
)

// rich has lines for each list of a service, with its name.
const (
	richName = "a@b.service"
	rich     = "Unit Wants=c.service d.service %n\nUnit After=c.service\nUnit Wants=\nUnit Wants=e.service\nService Type=oneshot\nService ExecStart=/a b\nService ExecStart=-/c %i\nService ExecStartPre=/p q\nService ExecStartPost=/r s\nService ExecStop=/t u\nService ExecReload=/v w\nService SuccessExitStatus=3 4\nService Environment=A=1 B=2\nService Environment=A=3\nService Sockets=x.socket y.socket\nInstall WantedBy=x.target y.target\nInstall RequiredBy=x.target y.target\nInstall Alias=x.service y.service\nInstall Also=x.service y.service"
)

// spoil writes into all lists of a unit, up to the end of their spare capacity.
func spoil(u *api.Unit) {
	lists(reflect.ValueOf(u).Elem(), "", func(list reflect.Value, _ string) {
		all := list.Slice(0, list.Cap())
		for i := range all.Len() {
			fill(all.Index(i), 20+i, 2)
		}
	})
}

// P0.3: Make keeps and changes nothing of its arguments, not even behind their
// ends.
func TestArgumentsAreLeft(t *testing.T) {
	l := append(linesOf(rich), linesOf("Unit Wants=z.service\nNone None=")...)
	before := slices.Clone(l)
	part := l[:len(l)-2]
	got, fault := unit.Make(richName, part)
	want, _ := expectedMake(richName, before[:len(part)])
	if !slices.Equal(l, before) || len(part) != len(l)-2 {
		t.Errorf("the lines are now %+v", l)
	}
	for i := range l {
		l[i] = api.Line{Section: "Spoilt", Key: "Spoilt", Value: "spoilt", At: -1}
	}
	if fault != (api.Fault{}) || !alike(got, want) {
		t.Errorf("the unit is %+v, %+v, want %+v", got, fault, want)
	}
	if _, fault := unit.Make(richName, before); fault != (api.Fault{Code: api.ErrSection, At: 2}) {
		t.Errorf("fault %+v", fault)
	}
}

// P0.3: what a caller writes into one unit changes no other one.
func TestUnitsAreNew(t *testing.T) {
	for _, x := range []struct{ name, text string }{
		{richName, rich},
		{"a.socket", "Socket ListenStream=80 81\nSocket ListenStream=82\nUnit Wants=x.service"},
		{"a.timer", "Timer OnBootSec=1\nTimer OnActiveSec=2\nTimer OnActiveSec=3\nTimer OnUnitInactiveSec=4\nTimer OnCalendar=daily\nTimer OnCalendar=Mon"},
	} {
		want, _ := expectedMake(x.name, linesOf(x.text))
		first, _ := unit.Make(x.name, linesOf(x.text))
		second, _ := unit.Make(x.name, linesOf(x.text))
		spoil(&first)
		if !alike(second, want) {
			t.Errorf("the unit is now %+v, want %+v", second, want)
		}
		checkMake(t, x.name, linesOf(x.text), want)
	}
}

// No two lists of one unit share memory: what is written into one, also behind
// its end, leaves the others.
func TestListsAreApart(t *testing.T) {
	var paths []string
	u, _ := unit.Make(richName, linesOf(rich))
	lists(reflect.ValueOf(&u).Elem(), "", func(_ reflect.Value, path string) { paths = append(paths, path) })
	for _, spoilt := range paths {
		u, _ := unit.Make(richName, linesOf(rich))
		want, _ := expectedMake(richName, linesOf(rich))
		lists(reflect.ValueOf(&u).Elem(), "", func(list reflect.Value, path string) {
			if path != spoilt {
				return
			}
			all := list.Slice(0, list.Cap())
			for i := range all.Len() {
				all.Index(i).SetZero()
			}
		})
		restored := map[string]reflect.Value{}
		lists(reflect.ValueOf(&want).Elem(), "", func(list reflect.Value, path string) { restored[path] = list })
		lists(reflect.ValueOf(&u).Elem(), "", func(list reflect.Value, path string) {
			if path == spoilt {
				list.Set(restored[path])
			}
		})
		if !alike(u, want) {
			t.Errorf("with another %s the unit is %+v, want %+v", spoilt, u, want)
		}
	}
}

// P0.3: Same and Wakes leave what they are given.
func TestUnitsAreLeft(t *testing.T) {
	a, b := full(3), full(3)
	b.Also[2] = "other"
	unit.Same(a, b)
	a.Kind = api.KTimer
	unit.Wakes(a)
	a.Kind = full(3).Kind
	if !alike(a, full(3)) || b.Also[2] != "other" {
		t.Errorf("the units are now %+v and %+v", a, b)
	}
}

// P0.4: nil and an empty list are the same.
func TestNilAndEmpty(t *testing.T) {
	for _, l := range [][]api.Line{nil, {}, linesOf(rich)[:0]} {
		checkMake(t, "a.target", l, unit.New("a.target"))
		checkFault(t, "a.service", l, api.ErrNone, 0)
		checkFault(t, "a", l, api.ErrName, 0)
	}
}

// P0.5: a call answers the same whatever was called before it or is called beside
// it.
func TestNothingIsKept(t *testing.T) {
	want, _ := expectedMake(richName, linesOf(rich))
	var group sync.WaitGroup
	for range 8 {
		group.Go(func() {
			for range 50 {
				checkMake(t, richName, linesOf(rich), want)
				checkFault(t, richName, linesOf(rich+"\nUnit Wants=%"), api.ErrSpec, 20)
				checkMake(t, "a.target", nil, unit.New("a.target"))
				checkSame(t, want, unit.New(richName), false)
				checkWakes(t, unit.New("a.timer"), "a.service")
			}
		})
	}
	group.Wait()
}

// P0.7: sections, keys and values are compared byte by byte.
func TestBytesAreCompared(t *testing.T) {
	l := linesOf("Unit After=b.target B.target b.Target.target b:.target b_.target b-.target " + `b\x2d.target`)
	want := unit.New("a.target")
	for _, other := range []string{"b.target", "B.target", "b.Target.target", "b:.target", "b_.target", "b-.target", `b\x2d.target`} {
		want.Rels = append(want.Rels, api.Rel{Kind: api.RAfter, Name: other})
	}
	checkMake(t, "a.target", l, want)
}

// P0.1: every call ends, soon enough, also with long arguments.
func TestLongArguments(t *testing.T) {
	const many = 1 << 19
	var names, ports strings.Builder
	for i := range many {
		names.WriteString("x" + strconv.Itoa(i) + ".target ")
		ports.WriteString(strconv.Itoa(i%65535+1) + " ")
	}
	checkFault(t, "a.target", linesOf("Unit After="+names.String()), api.ErrLong, 1)
	checkFault(t, "a.target", linesOf("Install Also="+names.String()), api.ErrLong, 1)
	checkFault(t, "a.socket", linesOf("Socket ListenStream="+ports.String()), api.ErrLong, 1)
	checkFault(t, "a.socket", linesOf("Socket ListenStream="+ports.String()+"0"), api.ErrValue, 1)
	checkEffect(t, api.KSocket, "Socket ListenStream="+strings.Repeat("80 ", many), func(*api.Unit) {})
	checkEffect(t, api.KTarget, "Unit After="+strings.Repeat("a.target ", many)+strings.Repeat(" ", many), func(*api.Unit) {})
	checkError(t, api.KService, "Service ExecStop="+strings.Repeat("x ", many), api.ErrValue)
	checkError(t, api.KService, "Service Environment="+strings.Repeat("A=1 ", many), api.ErrValue)
	long := strings.Repeat("x", many)
	checkEffect(t, api.KService, "Service ExecStop="+long, func(u *api.Unit) { u.Stop = []api.Exec{{Words: []string{long}}} })
	checkEffect(t, api.KService, "Service Environment=A="+long, func(u *api.Unit) { u.Env = []api.Pair{{Name: "A", Value: long}} })
	checkError(t, api.KTimer, "Timer OnCalendar="+long, api.ErrValue)
	checkFault(t, long, nil, api.ErrName, 0)
	checkFault(t, "a.target", linesOf(long+" Wants="), api.ErrSection, 1)
	checkFault(t, "a.target", linesOf("Unit "+long+"="), api.ErrKey, 1)
}

func TestManyLines(t *testing.T) {
	const many = 1 << 15
	repeat := func(text string) []api.Line { return slices.Repeat(linesOf(text), many) }
	want := unit.New("a.target")
	want.Desc, want.Rels = "x", []api.Rel{{Kind: api.RAfter, Name: "b.target"}}
	checkMake(t, "a.target", repeat("Unit Description=x\nUnit After=b.target"), want)
	checkMake(t, "a.target", repeat("Unit Wants=b.target\nUnit Wants="), unit.New("a.target"))
	checkFault(t, "a.service", repeat("Service ExecStart=/a\nService ExecStart="), api.ErrNone, 0)
	for i, l := 0, repeat("Unit Wants="); i < len(l); i += 997 {
		l[i] = api.Line{Section: "None", At: i + 5}
		checkFault(t, "a.service", l[i:], api.ErrSection, i+5)
		l[i] = l[i+1]
	}
}

// P0.6: long lists and great numbers in units that Same and Wakes are given.
func TestOddUnits(t *testing.T) {
	a, b := full(3), full(3)
	a.Ports, b.Ports = make([]int, 1<<20), make([]int, 1<<20)
	checkSame(t, a, b, true)
	b.Ports[1<<20-1] = -1 << 63
	checkSame(t, a, b, false)
	a.Ports[1<<20-1], a.Every, b.Every = -1<<63, 1<<63-1, 1<<63-1
	checkSame(t, a, b, true)
	long := strings.Repeat("x", 1<<20)
	checkWakes(t, api.Unit{Kind: api.KTimer, Name: long + ".timer"}, "")
	checkWakes(t, api.Unit{Kind: api.KTimer, Name: "a.timer", Unit: long}, long)
}
