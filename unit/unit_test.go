package unit_test

import (
	"math"
	"reflect"
	"strings"
	"testing"

	"matins/api"
	"matins/unit"
)

// alike compares values deeply, and independently of unit.Same: a nil list and
// an empty one are alike.
func alike(a, b any) bool { return alikeValues(reflect.ValueOf(a), reflect.ValueOf(b)) }

func alikeValues(a, b reflect.Value) bool {
	switch a.Kind() {
	case reflect.Slice:
		if a.Len() != b.Len() {
			return false
		}
		for i := range a.Len() {
			if !alikeValues(a.Index(i), b.Index(i)) {
				return false
			}
		}
		return true
	case reflect.Struct:
		for i := range a.NumField() {
			if !alikeValues(a.Field(i), b.Field(i)) {
				return false
			}
		}
		return true
	}
	return a.Interface() == b.Interface()
}

// The names that the tests use for a unit of each kind.
var nameOf = map[int]string{api.KService: "a.service", api.KSocket: "a.socket", api.KTimer: "a.timer", api.KTarget: "a.target"}

// Texts that are no unit names.
var noNames = []string{"", "a", ".service", "a.", "a.mount", "a.Service", "a.service ", " a.service", "a b.service", "@.service", "@x.service", "a@b@c.service", "a/b.service", "a.service\x00", "\xff.service", "é.service", "%n.service", strings.Repeat("x", 53) + ".service", strings.Repeat("x.service", 1000)}

// P10.1

func TestNew(t *testing.T) {
	for _, x := range []api.Unit{
		{Kind: api.KService, Default: true, Every: 10, Burst: 5, Type: api.TSimple, Restart: api.WNo, Pause: 0, Up: 90, Down: 90},
		{Kind: api.KSocket, Default: true, Every: 10, Burst: 5, Backlog: 16},
		{Kind: api.KTimer, Default: true, Every: 10, Burst: 5},
		{Kind: api.KTarget, Default: true, Every: 10, Burst: 5},
	} {
		suffix := strings.TrimPrefix(nameOf[x.Kind], "a")
		for _, body := range []string{"a", "b.c", "a@", "a@b", "a@-x.service", ".", `\`, strings.Repeat("x", 60-len(suffix)), strings.Repeat("x", 58-len(suffix)) + "@y"} {
			x.Name = body + suffix
			if got := unit.New(x.Name); !alike(got, x) {
				t.Errorf("New(%q) = %+v, want %+v", x.Name, got, x)
			}
		}
	}
}

func TestNewOfNoName(t *testing.T) {
	for _, s := range noNames {
		if got := unit.New(s); !alike(got, api.Unit{}) {
			t.Errorf("New(%.100q) = %+v, want the zero unit", s, got)
		}
	}
}

// P10.4: Wakes

func checkWakes(t *testing.T, u api.Unit, want string) {
	t.Helper()
	if got := unit.Wakes(u); got != want {
		t.Errorf("Wakes of %q, kind %d, unit %q = %q, want %q", u.Name, u.Kind, u.Unit, got, want)
	}
}

func TestWakes(t *testing.T) {
	for _, x := range [][2]string{
		{"a.socket", "a.service"}, {"a.timer", "a.service"}, {"a@b.socket", "a@b.service"}, {"a@b.timer", "a@b.service"}, {"a@.socket", "a@.service"}, {"a@.timer", "a@.service"},
		{"a.socket.timer", "a.socket.service"}, {"timer.timer", "timer.service"}, {`-\x20:_.@-x.service.socket`, `-\x20:_.@-x.service.service`},
		{strings.Repeat("x", 52) + ".socket", strings.Repeat("x", 52) + ".service"}, {strings.Repeat("x", 53) + ".socket", ""}, {strings.Repeat("x", 52) + ".timer", strings.Repeat("x", 52) + ".service"}, {strings.Repeat("x", 53) + ".timer", ""}, {strings.Repeat("x", 54) + ".timer", ""},
	} {
		u := unit.New(x[0])
		checkWakes(t, u, x[1])
		for _, other := range []string{"b.service", "b@c.service", "b.target", "a.timer", "no name", "\x00"} {
			u.Unit = other
			checkWakes(t, u, other)
		}
	}
}

func TestWakesOfOtherKinds(t *testing.T) {
	for _, s := range []string{"a.service", "a@b.service", "a@.service", "a.target", "a@b.target"} {
		u := unit.New(s)
		checkWakes(t, u, "")
		u.Unit = "b.service"
		checkWakes(t, u, "")
	}
	for _, kind := range []int{0, -1, 5, -2, -3, 1<<32 + 2, math.MaxInt, math.MinInt} {
		checkWakes(t, api.Unit{Kind: kind, Unit: "b.service"}, "")
	}
	for _, s := range noNames {
		checkWakes(t, unit.New(s), "")
		checkWakes(t, api.Unit{Name: s, Kind: api.KSocket}, "")
		checkWakes(t, api.Unit{Name: s, Kind: api.KTimer}, "")
		checkWakes(t, api.Unit{Name: s, Kind: api.KTimer, Unit: "b.service"}, "b.service")
	}
}

func TestWakesOfMadeUnits(t *testing.T) {
	for _, x := range []struct{ name, text, want string }{
		{"a.socket", "Socket ListenStream=80", "a.service"},
		{"a.socket", "Socket ListenStream=80\nSocket Service=b@c.service", "b@c.service"},
		{"a@b.timer", "Timer OnCalendar=daily", "a@b.service"},
		{"a@b.timer", "Timer OnCalendar=daily\nTimer Unit=%p.target", "a.target"},
		{"a.service", "Service ExecStart=/a", ""},
		{"a.target", "", ""},
	} {
		u, fault := unit.Make(x.name, linesOf(x.text))
		if fault != (api.Fault{}) {
			t.Errorf("Make(%q, %q): %+v", x.name, x.text, fault)
		}
		checkWakes(t, u, x.want)
	}
}
