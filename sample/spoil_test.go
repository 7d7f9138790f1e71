package sample_test

import (
	"encoding/json"
	"reflect"
	"testing"

	"cabotage/api"
	"cabotage/sample"
)

// plain is a value of a type in which each list has two elements, down to a depth of
// lists within each other.
func plain(v reflect.Value, depth int) {
	switch v.Kind() {
	case reflect.Struct:
		for i := range v.NumField() {
			plain(v.Field(i), depth)
		}
	case reflect.Slice:
		if depth > 0 {
			v.Set(reflect.MakeSlice(v.Type(), 2, 4))
			plain(v.Index(0), depth-1)
			plain(v.Index(1), depth-1)
		}
	case reflect.Int:
		v.SetInt(7)
	case reflect.String:
		v.SetString("x")
	}
}

// differences adds the fields of two values that differ, by their names.
func differences(a, b reflect.Value, name string, into map[string]int) {
	switch {
	case a.Kind() == reflect.Struct:
		for i := range a.NumField() {
			differences(a.Field(i), b.Field(i), name+"."+a.Type().Field(i).Name, into)
		}
	case a.Kind() == reflect.Slice && a.Len() == b.Len():
		for i := range a.Len() {
			differences(a.Index(i), b.Index(i), name+"[]", into)
		}
	case a.Kind() == reflect.Slice:
		into[name]++
	default:
		into[name] += 0
		if !a.Equal(b) {
			into[name]++
		}
	}
}

func text(a any) string {
	s, _ := json.Marshal(a)
	return string(s)
}

func TestSpoil(t *testing.T) {
	m := chance(4)
	for _, c := range []struct {
		kind   any
		fields int // at least
	}{{api.ScopeProg{}, 12}, {api.FlatProg{}, 12}, {api.Sol{}, 12}, {api.SolStep{}, 4}, {api.AutoGroup{}, 2}, {api.AutoMachine{}, 2}, {[]api.AutoLetter{}, 2}, {[]api.AutoNode{}, 4}, {[]int{}, 1}} {
		kind := c.kind
		found, asked := map[string]int{}, map[string]int{}
		for range 2000 {
			a, b := reflect.New(reflect.TypeOf(kind)), reflect.New(reflect.TypeOf(kind))
			plain(a.Elem(), 4)
			before := text(a.Interface())
			b.Elem().Set(a.Elem())
			sample.Spoil(m.IntN, b.Interface())
			if text(a.Interface()) != before {
				t.Fatal("changed elsewhere", before, text(a.Interface()))
			}
			differences(a.Elem(), b.Elem(), "", found)
			differences(a.Elem(), a.Elem(), "", asked)
		}
		for name := range asked {
			if found[name] == 0 {
				t.Errorf("%T: nothing changes%s", kind, name)
			}
		}
		if len(found) < c.fields {
			t.Errorf("%T: %v", kind, found)
		}
	}
}

// TestSpoilLists: lists become shorter and longer, also from nothing and to nothing.
func TestSpoilLists(t *testing.T) {
	m := chance(5)
	lengths := map[int]int{}
	for range 500 {
		x := api.SolStep{Picks: []int{1, 2}}
		sample.Spoil(m.IntN, &x)
		lengths[len(x.Picks)]++
		y := api.SolStep{}
		sample.Spoil(m.IntN, &y)
		lengths[10+len(y.Picks)]++
	}
	for _, n := range []int{0, 1, 2, 3, 10, 11} {
		if lengths[n] == 0 {
			t.Error(lengths)
		}
	}
}

func TestApart(t *testing.T) {
	for _, kind := range []any{api.ScopeProg{}, api.FlatProg{}, api.Sol{}, api.SolStep{}, api.AutoGroup{}, api.AutoMachine{}, []api.AutoLetter{}, []api.AutoNode{}, []int{}, [][]int{}, []api.SolEvent{}} {
		a, b := reflect.New(reflect.TypeOf(kind)), reflect.New(reflect.TypeOf(kind))
		plain(a.Elem(), 4)
		plain(b.Elem(), 4)
		if !sample.Apart(a.Interface(), b.Interface()) || !sample.Apart() {
			t.Errorf("%T: not apart", kind)
		}
		if sample.Apart(b.Interface(), a.Interface(), b.Interface()) {
			t.Errorf("%T: apart from itself", kind)
		}
	}
	l := []int{1, 2, 3, 4}
	for i, c := range []struct {
		a, b []int
		want bool
	}{{l[:2], l[2:], false}, {l[:2:2], l[2:], true}, {l[2:], l[:2:2], true}, {l[:0], l[3:], false}, {l[:3:3], l[2:3], false}, {nil, l, true}} {
		if sample.Apart(&c.a, &c.b) != c.want {
			t.Error(i)
		}
	}
	x := api.SolEvent{Vals: make([]api.SolVal, 1)}
	s, events := api.Sol{Groups: []api.SolGroup{{Env: x.Vals}}}, []api.SolEvent{x}
	if sample.Apart(&s, &events) {
		t.Error("the same values")
	}
}
