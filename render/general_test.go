package render_test

import (
	"math"
	"reflect"
	"slices"
	"strings"
	"sync"
	"testing"

	"matins/api"
	"matins/render"
	"matins/unit"
)

// Each function has the face that the chapter gives it.
var (
	_ func(api.Unit) bool       = render.May
	_ func(api.Unit) []api.Line = render.Lines
	_ func(api.Unit) string     = render.Text
)

// rich returns a service each of whose lists has elements, and spare capacity.
func rich() api.Unit {
	u := sound(api.KService)
	setCommon(&u)
	u.Pre, u.Post, u.Stop, u.Reload = commands("/b", "/c"), commands("/d"), commands("/e"), commands("/f")
	u.Start = []api.Exec{{Dash: true, Words: []string{"/a", "%n", "b c"}}}
	u.Success, u.Sockets = []int{3, 4}, []string{"b.socket", "c.socket"}
	u.Env = []api.Pair{{Name: "A", Value: "%"}, {Name: "B", Value: "x y"}}
	grow(reflect.ValueOf(&u).Elem())
	return u
}

// grow gives spare capacity to all lists within v, with something in it that is
// not to be changed.
func grow(v reflect.Value) {
	switch v.Kind() {
	case reflect.Slice:
		length := v.Len()
		for i := range length {
			grow(v.Index(i))
		}
		if length > 0 {
			v.Set(reflect.AppendSlice(v, v).Slice(0, length))
		}
	case reflect.Struct:
		for i := range v.NumField() {
			grow(v.Field(i))
		}
	}
}

// whole returns a unit with all its lists up to the end of their capacity.
func whole(u api.Unit) api.Unit {
	stretch(reflect.ValueOf(&u).Elem())
	return u
}

func stretch(v reflect.Value) {
	switch v.Kind() {
	case reflect.Slice:
		all := reflect.MakeSlice(v.Type(), v.Cap(), v.Cap())
		reflect.Copy(all, v.Slice(0, v.Cap()))
		for i := range all.Len() {
			stretch(all.Index(i))
		}
		v.Set(all)
	case reflect.Struct:
		for i := range v.NumField() {
			stretch(v.Field(i))
		}
	}
}

// P0.3: nothing of a unit is changed, not even behind the ends of its lists.
func TestUnitsAreLeft(t *testing.T) {
	wrong := func() api.Unit {
		u := rich()
		u.Rels[2].Kind = 0
		return u
	}
	for _, make := range []func() api.Unit{rich, wrong} {
		u := make()
		render.May(u)
		render.Lines(u)
		render.Text(u)
		if !reflect.DeepEqual(u, make()) || !reflect.DeepEqual(whole(u), whole(make())) {
			t.Errorf("the unit is now %+v, want %+v", whole(u), whole(make()))
		}
	}
}

// P0.3: nothing of a unit is kept, and what a caller writes into lines changes no
// other lines.
func TestLinesAreNew(t *testing.T) {
	u := rich()
	first, second := render.Lines(u), render.Lines(u)
	want := slices.Clone(second)
	if len(want) == 0 {
		t.Fatal("no lines")
	}
	all := first[:cap(first)]
	for i := range all {
		all[i] = api.Line{Section: "Spoilt", Key: "Spoilt", Value: "spoilt", At: -1}
	}
	for i := range u.Start[0].Words {
		u.Start[0].Words[i] = "spoilt"
	}
	u.Success[0], u.Env[0], u.Rels[0], u.Sockets[0] = -1, api.Pair{}, api.Rel{}, "spoilt"
	if !slices.Equal(second, want) || !slices.Equal(render.Lines(rich()), want) {
		t.Errorf("the lines are now %+v, want %+v", second, want)
	}
	checkRefused(t, u)
}

// P0.4: nil and an empty list are the same.
func TestNilAndEmpty(t *testing.T) {
	for kind := range nameOf {
		want := render.Text(sound(kind))
		u := sound(kind)
		v := reflect.ValueOf(&u).Elem()
		for i := range v.NumField() {
			if field := v.Field(i); field.Kind() == reflect.Slice && field.Len() == 0 {
				field.Set(reflect.MakeSlice(field.Type(), 0, 3))
			}
		}
		checkText(t, u, want)
	}
	for _, words := range [][]string{nil, {}} {
		checkRefused(t, with(api.KService, func(u *api.Unit) { u.Stop = []api.Exec{{Words: words}} }))
	}
}

// P0.5: a call answers the same whatever was called before it or is called beside
// it.
func TestNothingIsKept(t *testing.T) {
	want := render.Text(rich())
	var group sync.WaitGroup
	for range 8 {
		group.Go(func() {
			for range 50 {
				checkText(t, rich(), want)
				checkText(t, sound(api.KSocket), "[Socket]\nListenStream=80\n")
				checkRefused(t, unit.New("a.service"))
				checkText(t, unit.New("a.target"), "")
			}
		})
	}
	group.Wait()
}

// P0.1, P0.6: the least and the greatest numbers, and any bytes, in each field.
func TestOddFields(t *testing.T) {
	numbers := []int{math.MinInt, math.MinInt + 1, -1 << 32, -2, -1, 1 << 31, 1 << 40, 1<<40 + 1, math.MaxInt - 1, math.MaxInt}
	texts := []string{"", "\x00", "\xff", "%", "%%%", "\n", "[", "]", "=", "\\", "\"", " ", "a@b@c", ".", "@.service", strings.Repeat("\xff\x00%", 1000)}
	for kind := range nameOf {
		u := sound(kind)
		setCommon(&u)
		eachLeaf(reflect.ValueOf(&u).Elem(), func(leaf reflect.Value) {
			before := reflect.ValueOf(leaf.Interface())
			switch leaf.Kind() {
			case reflect.Int:
				for _, n := range numbers {
					leaf.SetInt(int64(n))
					checkModel(t, u)
				}
			case reflect.String:
				for _, s := range texts {
					leaf.SetString(s)
					checkModel(t, u)
				}
			}
			leaf.Set(before)
		})
	}
}

// eachLeaf calls do with all values within v that are no lists and no structs.
func eachLeaf(v reflect.Value, do func(reflect.Value)) {
	switch v.Kind() {
	case reflect.Slice:
		for i := range v.Len() {
			eachLeaf(v.Index(i), do)
		}
	case reflect.Struct:
		for i := range v.NumField() {
			eachLeaf(v.Field(i), do)
		}
	default:
		do(v)
	}
}

// P0.1: every call ends, soon enough, also with long arguments.
func TestLongArguments(t *testing.T) {
	const many = 1 << 17
	text, percents := strings.Repeat("x", many), strings.Repeat("%", many)
	for _, set := range []func(*api.Unit){
		func(u *api.Unit) { u.Name = text + ".service" },
		func(u *api.Unit) { u.Desc = text }, func(u *api.Unit) { u.Desc = percents }, func(u *api.Unit) { u.Instance = strings.Repeat(" ", many) },
		func(u *api.Unit) { u.Rels = make([]api.Rel, many) },
		func(u *api.Unit) { u.Rels = slices.Repeat([]api.Rel{{Kind: api.RAfter, Name: "b.target"}}, many) },
		func(u *api.Unit) { u.Rels = []api.Rel{{Kind: api.RAfter, Name: text}} },
		func(u *api.Unit) { u.Stop = make([]api.Exec, many) }, func(u *api.Unit) { u.Stop = slices.Repeat(commands("/a"), many) },
		func(u *api.Unit) { u.Stop = []api.Exec{{Words: make([]string, many)}} }, func(u *api.Unit) { u.Stop = commands(text) }, func(u *api.Unit) { u.Stop = commands(percents) },
		func(u *api.Unit) { u.Success = make([]int, many) }, func(u *api.Unit) { u.Env = make([]api.Pair, many) }, func(u *api.Unit) { u.Env = []api.Pair{{Name: text, Value: percents}} },
		func(u *api.Unit) { u.Sockets = make([]string, many) }, func(u *api.Unit) { u.Also = slices.Repeat([]string{"b.target"}, many) }, func(u *api.Unit) { u.Alias = []string{text} },
		func(u *api.Unit) { u.Ports = make([]int, many) }, func(u *api.Unit) { u.Boot = make([]int, many) }, func(u *api.Unit) { u.Calendar = make([]string, many) },
	} {
		u := with(api.KService, set)
		if render.May(u) || len(render.Lines(u)) != 0 || render.Text(u) != "" {
			t.Errorf("a unit with something long in it may be encoded")
		}
	}
}
