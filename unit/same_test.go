package unit_test

import (
	"reflect"
	"slices"
	"testing"

	"matins/api"
	"matins/unit"
)

// P10.4: Same

func checkSame(t *testing.T, a, b api.Unit, want bool) {
	t.Helper()
	if unit.Same(a, b) != want || unit.Same(b, a) != want {
		t.Errorf("Same(%+v, %+v) = %v, and the other way round %v, want %v", a, b, unit.Same(a, b), unit.Same(b, a), want)
	}
}

// fill writes into v, which can be set, something other than zero, made of n
// where it can be. Lists get length elements, each made of another number.
func fill(v reflect.Value, n, length int) {
	switch v.Kind() {
	case reflect.Bool:
		v.SetBool(true)
	case reflect.Int:
		v.SetInt(int64(n + 1))
	case reflect.String:
		v.SetString(string(rune('a' + n)))
	case reflect.Slice:
		v.Set(reflect.MakeSlice(v.Type(), length, length))
		for i := range length {
			fill(v.Index(i), n+i, length)
		}
	case reflect.Struct:
		for i := range v.NumField() {
			fill(v.Field(i), n+i, length)
		}
	default:
		panic("a field of a kind that the tests do not know")
	}
}

// full returns a unit none of whose fields is zero, and each of whose lists has
// the given length. What it holds is new.
func full(length int) api.Unit {
	var u api.Unit
	fill(reflect.ValueOf(&u).Elem(), 0, length)
	return u
}

// leaves calls do with all values within v that are no lists and no structs, and
// the path to each.
func leaves(v reflect.Value, path string, do func(leaf reflect.Value, path string)) {
	switch v.Kind() {
	case reflect.Slice:
		for i := range v.Len() {
			leaves(v.Index(i), path+"["+string(rune('0'+i))+"]", do)
		}
	case reflect.Struct:
		for i := range v.NumField() {
			leaves(v.Field(i), path+"."+v.Type().Field(i).Name, do)
		}
	default:
		do(v, path)
	}
}

// lists calls do with all lists within v, inner ones included.
func lists(v reflect.Value, path string, do func(list reflect.Value, path string)) {
	switch v.Kind() {
	case reflect.Slice:
		do(v, path)
		for i := range v.Len() {
			lists(v.Index(i), path+"["+string(rune('0'+i))+"]", do)
		}
	case reflect.Struct:
		for i := range v.NumField() {
			lists(v.Field(i), path+"."+v.Type().Field(i).Name, do)
		}
	}
}

func TestSameUnits(t *testing.T) {
	checkSame(t, api.Unit{}, api.Unit{}, true)
	for length := range 4 {
		checkSame(t, full(length), full(length), true)
	}
	for _, name := range nameOf {
		checkSame(t, unit.New(name), unit.New(name), true)
		checkSame(t, unit.New(name), api.Unit{}, false)
	}
	for length := range 4 {
		checkSame(t, full(length), full(length+1), false)
		checkSame(t, full(length), api.Unit{}, false)
	}
}

// No field may differ, wherever it stands.
func TestEachFieldCounts(t *testing.T) {
	for _, base := range []func() api.Unit{func() api.Unit { return api.Unit{} }, func() api.Unit { return full(1) }, func() api.Unit { return full(3) }} {
		u, count := base(), 0
		leaves(reflect.ValueOf(&u).Elem(), "", func(leaf reflect.Value, path string) {
			before := reflect.New(leaf.Type()).Elem()
			before.Set(leaf)
			switch leaf.Kind() {
			case reflect.Bool:
				leaf.SetBool(!leaf.Bool())
			case reflect.Int:
				leaf.SetInt(leaf.Int() + 1)
			case reflect.String:
				leaf.SetString(leaf.String() + "\x00")
			}
			if unit.Same(u, base()) || unit.Same(base(), u) {
				t.Errorf("units with different %s are the same", path)
			}
			leaf.Set(before)
			checkSame(t, u, base(), true)
			count++
		})
		if count < 16 {
			t.Errorf("only %d fields", count)
		}
	}
}

// No list may be longer or shorter, or in another order.
func TestEachListCounts(t *testing.T) {
	u, count := full(3), 0
	lists(reflect.ValueOf(&u).Elem(), "", func(list reflect.Value, path string) {
		before := reflect.New(list.Type()).Elem()
		before.Set(list)
		turned := reflect.AppendSlice(reflect.AppendSlice(reflect.MakeSlice(list.Type(), 0, 3), before.Slice(1, 3)), before.Slice(0, 1))
		for _, other := range []reflect.Value{before.Slice(0, 2), before.Slice(1, 3), before.Slice(0, 0), reflect.Zero(list.Type()), reflect.Append(before, before.Index(2)), reflect.Append(before, reflect.Zero(list.Type().Elem())), turned} {
			list.Set(other)
			if unit.Same(u, full(3)) || unit.Same(full(3), u) {
				t.Errorf("units with different %s are the same", path)
			}
		}
		list.Set(before)
		count++
	})
	if count != 18+5*3 {
		t.Errorf("%d lists", count)
	}
}

// A list that holds one zero element is not an empty one.
func TestListsOfZeros(t *testing.T) {
	var u api.Unit
	lists(reflect.ValueOf(&u).Elem(), "", func(list reflect.Value, path string) {
		list.Set(reflect.MakeSlice(list.Type(), 1, 1))
		checkSame(t, u, api.Unit{}, false)
		list.Set(reflect.MakeSlice(list.Type(), 0, 1))
		checkSame(t, u, api.Unit{}, true)
		list.SetZero()
	})
}

// P0.4: a nil list is the same as an empty one, also within a command.
func TestSameNilAndEmpty(t *testing.T) {
	empty := func(u api.Unit) api.Unit {
		lists(reflect.ValueOf(&u).Elem(), "", func(list reflect.Value, _ string) {
			if list.Len() == 0 {
				list.Set(reflect.MakeSlice(list.Type(), 0, 0))
			}
		})
		return u
	}
	checkSame(t, empty(api.Unit{}), api.Unit{}, true)
	for _, words := range [][]string{nil, {}} {
		a, b := full(2), full(2)
		a.Start[0].Words, a.Post[1].Words = words, words
		b.Start[0].Words, b.Post[1].Words = words, words
		checkSame(t, empty(a), b, true)
		b.Start[0].Words = []string{""}
		checkSame(t, empty(a), b, false)
	}
}

// The same elements in two lists are the same wherever those lie.
func TestSharedLists(t *testing.T) {
	a := full(3)
	b := a
	checkSame(t, a, b, true)
	l := slices.Concat(a.Ports, a.Ports)
	a.Ports, b.Ports = l[:3], l[3:]
	checkSame(t, a, b, true)
	a.Ports, b.Ports = l[:3], l[1:4]
	checkSame(t, a, b, false)
	// What lies behind the end of a list does not count.
	a.Ports, b.Ports = l[:2], []int{l[0], l[1]}
	checkSame(t, a, b, true)
}
