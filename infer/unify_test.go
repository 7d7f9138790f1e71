package infer_test

import (
	"fmt"
	"strings"
	"testing"

	"cabotage/api"
	"cabotage/infer"
)

// P4.5

// unified is the result of Unify, as text.
func unified(a, b api.InferType) string {
	k, is, e := infer.Unify(a, b)
	switch {
	case e == api.OK && is:
		return show(k)
	case show(k) != show(api.InferType{}) || is:
		return "a type where there is none"
	case e == api.OK:
		return "none"
	}
	return fmt.Sprint("error ", e)
}

func TestUnify(t *testing.T) {
	for _, c := range []struct{ a, b, want string }{
		{"chan(0, int)", "chan(place, 1)", "chan(place, int)"},
		{"0", "chan(0)", "none"},
		{"chan(5, 7)", "3", "chan(0, 1)"},
		{"int", "int", "int"},
		{"place", "place", "place"},
		{"int", "place", "none"},
		{"int", "chan()", "none"},
		{"place", "chan()", "none"},
		{"chan()", "chan()", "chan()"},
		{"chan()", "chan(int)", "none"},
		{"chan(int)", "chan(int, int)", "none"},
		{"chan(chan(int), 0)", "chan(chan(place), 0)", "none"},
		{"0", "0", "0"},
		{"999", "999", "0"},
		{"7", "8", "0"},
		{"0", "int", "int"},
		{"int", "0", "int"},
		{"999", "chan(5, 998, 5)", "chan(0, 1, 0)"},
		{"chan(8, 7)", "chan(8, 7)", "chan(0, 1)"},
		{"chan(8, 7)", "chan(7, 8)", "chan(0, 0)"},
		{"chan(0, 0)", "chan(int, place)", "none"},
		{"chan(0, 0)", "chan(int, 1)", "chan(int, int)"},
		{"chan(0, 0)", "chan(1, int)", "chan(int, int)"},
		{"chan(0, 1, 2)", "chan(1, 2, 0)", "chan(0, 0, 0)"},
		{"chan(0, 1, 2)", "chan(1, 2, int)", "chan(int, int, int)"},
		{"chan(0, 1, 2)", "chan(1, 2, chan(9))", "chan(chan(0), chan(0), chan(0))"},
		{"chan(chan(1, 0), 2)", "chan(2, chan(3, int))", "chan(chan(0, int), chan(0, int))"},
		// a variable with one number in both is one
		{"chan(0, int)", "chan(chan(1), 1)", "chan(chan(int), int)"},
		{"chan(0, 1)", "chan(1, chan(0))", "none"},
		{"chan(0, chan(0))", "chan(1, 1)", "none"},
		{"chan(0, 1, 2)", "chan(chan(1), chan(2), chan(0))", "none"},
		{"chan(0, 1, 0)", "chan(chan(1), chan(0), 2)", "none"},
		{"chan(0, 1, chan(1))", "chan(chan(2), chan(2), 0)", "none"},
		{"chan(0, 1, chan(1))", "chan(chan(2), chan(int), 0)", "chan(chan(chan(int)), chan(int), chan(chan(int)))"},
	} {
		for range 2 {
			if got := unified(kind(c.a), kind(c.b)); got != c.want {
				t.Errorf("%s, %s: %s, not %s", c.a, c.b, got, c.want)
			}
			c.a, c.b = c.b, c.a
		}
	}
}

func TestUnifyErrors(t *testing.T) {
	for i, k := range noTypes() {
		for _, other := range []api.InferType{kind("0"), kind("int"), k} {
			if a, b := unified(k, other), unified(other, k); a != "error 2" || b != "error 2" {
				t.Error(i, a, b)
			}
		}
	}
	if got := unified(nested(200), kind("0")); got != show(nested(200)) {
		t.Error(got)
	}
	two := func(a, b api.InferType) api.InferType {
		return api.InferType{Op: api.InferChan, Kids: []api.InferType{a, b}}
	}
	three := func(a, b, c api.InferType) api.InferType {
		return api.InferType{Op: api.InferChan, Kids: []api.InferType{a, b, c}}
	}
	if got := unified(kind("chan(0, 0)"), two(nested(99), kind("1"))); got != show(two(nested(99), nested(99))) {
		t.Error(got)
	}
	if got := unified(kind("chan(0, 0, 1)"), three(nested(99), kind("2"), kind("int"))); got != show(three(nested(99), nested(99), kind("int"))) {
		t.Error(got) // 200 nodes
	}
	if got := unified(kind("chan(0, 0)"), two(nested(100), kind("1"))); got != "error 3" {
		t.Error(got)
	}
	if got := unified(kind("chan(0, 0, int)"), three(nested(150), kind("1"), kind("place"))); got != "none" {
		t.Error(got)
	}
}

// tower is a list of types, the last one first: each brings the one before it thrice.
func tower(first, levels int, bottom api.InferType) api.InferType {
	k := bottom
	for i := range levels {
		v := api.InferType{Op: api.InferVar, N: first + i}
		k = api.InferType{Op: api.InferChan, Kids: []api.InferType{{Op: api.InferChan, Kids: []api.InferType{v, v, v}}, k}}
	}
	return k
}

// steps is a list of the variables that are the levels of a tower.
func steps(first, levels int, bottom api.InferType) api.InferType {
	k := bottom
	for i := range levels {
		k = api.InferType{Op: api.InferChan, Kids: []api.InferType{{Op: api.InferVar, N: first + i + 1}, k}}
	}
	return k
}

// TestUnifyLarge: types that share what they bring are unified as fast as others.
func TestUnifyLarge(t *testing.T) {
	two := func(a, b api.InferType) api.InferType {
		return api.InferType{Op: api.InferChan, Kids: []api.InferType{a, b}}
	}
	top := func(first, levels int) api.InferType { return api.InferType{Op: api.InferVar, N: first + levels} }
	// One tower whose last type would have 3^38 nodes, and one within itself.
	const high = 38
	if got := unified(steps(0, high, kind("int")), tower(0, high, kind("int"))); got != "error 3" {
		t.Error(got)
	}
	if got := unified(steps(0, high, top(0, high)), tower(0, high, kind("0"))); got != "none" {
		t.Error(got)
	}
	// Two towers with the same type at their tops, and something at their bottoms.
	const low = 18
	for _, c := range []struct{ a, b, want string }{
		{"int", "place", "none"},
		{"500", "501", "error 3"},
		{"500", "chan(501)", "error 3"},
		{"chan(500)", "chan(501, 502)", "none"},
	} {
		bottoms := map[int]api.InferType{0: kind(c.a), 100: kind(c.b)}
		a := two(steps(0, low, top(0, low)), steps(100, low, kind("int")))
		b := two(tower(0, low, top(100, low)), tower(100, low, kind("int")))
		if got := unified(put(a, bottoms), put(b, bottoms)); got != c.want {
			t.Error(c.a, c.b, got)
		}
	}
}

func TestInstance(t *testing.T) {
	for _, c := range []struct {
		a, b string
		want bool
	}{
		{"0, 0", "int, int", true},
		{"0, 0", "int, place", false},
		{"chan(0)", "chan(5)", true},
		{"", "", true},
		{"int, place, chan()", "int, place, chan()", true},
		{"int", "place", false},
		{"chan()", "chan(int)", false},
		{"chan(int)", "chan()", false},
		{"chan(0)", "int", false},
		// variables of the instance stay as they are
		{"chan(int)", "chan(5)", false},
		{"int", "0", false},
		{"chan(5)", "0", false},
		{"0", "0", true},
		{"0, 1", "3, 3", true},
		{"0, 0", "3, 4", false},
		{"0, 1", "1, 0", true},
		{"chan(0, 1)", "chan(1, 0)", true},
		{"chan(0, 1), 1", "chan(1, 0), 1", false},
		{"chan(0, 1), 1", "chan(1, 0), 0", true},
		// those with one number in both are two
		{"1", "chan(1)", true},
		{"0, 1", "chan(1), chan(0)", true},
		{"chan(0, chan(0))", "chan(chan(0), chan(chan(0)))", true},
		{"chan(0, chan(0))", "chan(chan(0), chan(chan(1)))", false},
		{"chan(0, 0)", "chan(chan(1, 2), chan(1, 2))", true},
		{"chan(0, 0)", "chan(chan(1, 2), chan(2, 1))", false},
		{"0, chan(0)", "chan(7), chan(chan(7))", true},
		{"0, chan(0)", "chan(7), chan(7)", false},
	} {
		if is, e := infer.Instance(kinds(c.a), kinds(c.b)); e != api.OK || is != c.want {
			t.Error(c.a, "/", c.b, is, e)
		}
	}
	if is, e := infer.Instance([]api.InferType{kind("0"), kind("chan(0)")}, []api.InferType{nested(200), nested(200)}); e != api.OK || is {
		t.Error(is, e)
	}
	if is, e := infer.Instance([]api.InferType{kind("0"), kind("chan(0)")}, []api.InferType{nested(199), nested(200)}); e != api.OK || !is {
		t.Error(is, e)
	}
}

func TestInstanceErrors(t *testing.T) {
	for i, k := range noTypes() {
		l, good := []api.InferType{kind("int"), k}, kinds("int, int")
		for j, c := range [][2][]api.InferType{{l, good}, {good, l}, {l, l}, {l[1:], good}} {
			if is, e := infer.Instance(c[0], c[1]); e != api.ErrArg || is {
				t.Error(i, j, is, e)
			}
		}
	}
	for _, c := range [][2]string{{"0", ""}, {"", "0"}, {"0, 0", "int"}, {"int", "int, int"}} {
		if is, e := infer.Instance(kinds(c[0]), kinds(c[1])); e != api.ErrArg || is {
			t.Error(c, is, e)
		}
	}
	// Lists of any lengths will do.
	many := func(s string) []api.InferType { return kinds(strings.Repeat(s+", ", 99999) + s) }
	for _, c := range []struct {
		a, b string
		want bool
	}{{"0", "chan(3)", true}, {"chan(0, 1)", "chan(2, int)", true}, {"chan(0, int)", "chan(0, 0)", false}} {
		if is, e := infer.Instance(many(c.a), many(c.b)); e != api.OK || is != c.want {
			t.Error(c, is, e)
		}
	}
}

// small are the types of at most so many nodes, with variables below a number.
func small(nodes, variables int) []api.InferType {
	l := kinds("int, place, chan()")
	for v := range variables {
		l = append(l, api.InferType{Op: api.InferVar, N: v})
	}
	if nodes < 2 {
		return l
	}
	less := small(nodes-1, variables)
	for _, a := range less {
		if nodesOf(a) < nodes {
			l = append(l, api.InferType{Op: api.InferChan, Kids: []api.InferType{a}})
		}
		for _, b := range less {
			if nodesOf(a)+nodesOf(b) < nodes {
				l = append(l, api.InferType{Op: api.InferChan, Kids: []api.InferType{a, b}})
			}
		}
	}
	return l
}

// TestUnifySmall: what Unify returns is an instance of both types, and all that both
// become is an instance of it; where it returns none they become nothing.
func TestUnifySmall(t *testing.T) {
	types := small(3, 2)
	places := small(2, 2)
	for _, a := range types {
		for _, b := range types {
			k, is, e := infer.Unify(a, b)
			if e != api.OK {
				t.Fatal(show(a), show(b), e)
			}
			if is && !(instance(t, a, b, k, k) && numbered(k)) {
				t.Error(show(a), show(b), show(k))
			}
			for _, x := range places {
				for _, y := range places {
					in := map[int]api.InferType{0: x, 1: y}
					c := put(a, in)
					if show(c) == show(put(b, in)) && !(is && instance(t, k, c)) {
						t.Error(show(a), show(b), show(c), show(k))
					}
				}
			}
		}
	}
}

// instance reports whether the second half of some types is an instance of the first
// one.
func instance(t *testing.T, l ...api.InferType) bool {
	t.Helper()
	is, e := infer.Instance(l[:len(l)/2], l[len(l)/2:])
	if e != api.OK || is != matches(l[:len(l)/2], l[len(l)/2:]) {
		t.Fatal(showAll(l), is, e)
	}
	return is
}

func numbered(k api.InferType) bool {
	var l numbering
	return show(l.anew(k)) == show(k)
}

// TestUnifyChance: with larger types, against a plain reading.
func TestUnifyChance(t *testing.T) {
	m := newMaker(6)
	n := 0
	for range 20000 {
		a, b := m.kind(4, 4), m.kind(4, 4)
		if m.IntN(2) == 0 {
			b = put(a, map[int]api.InferType{m.IntN(4): m.kind(3, 4), m.IntN(4): m.kind(2, 4)})
		}
		p := newPlain(api.Term{Op: api.TermNil})
		want := "none"
		if p.equate(a, b) {
			n++
			var l numbering
			want = show(l.anew(p.become(a)))
		}
		if got := unified(a, b); got != want && got != "error 3" {
			t.Fatal(show(a), show(b), got, want)
		}
		instance(t, a, b)
		instance(t, a, b, b, put(b, m.others([]api.InferType{b}, 3)))
	}
	if n < 5000 {
		t.Errorf("only %d", n)
	}
}
