package infer

import (
	"cabotage/api"
	"cabotage/list"
)

// formed reports whether a type is one.
func formed(t api.InferType) bool {
	left := api.InferMost
	var fits func(t api.InferType) bool
	fits = func(t api.InferType) bool {
		left--
		if left < 0 || t.Op != api.InferVar && t.N != 0 || t.Op != api.InferChan && len(t.Kids) > 0 {
			return false
		}
		switch t.Op {
		case api.InferInt, api.InferPlace:
			return true
		case api.InferVar:
			return t.N >= 0 && t.N <= api.InferVars
		}
		return t.Op == api.InferChan && len(t.Kids) <= api.TermArgs && all(t.Kids, fits)
	}
	return fits(t)
}

// all reports whether something holds for all elements of a list.
func all[A any](l []A, is func(A) bool) bool {
	for _, a := range l {
		if !is(a) {
			return false
		}
	}
	return true
}

// build returns the node of a type whose variables are nodes already.
func build(t api.InferType, variable func(n int) *node) *node {
	switch t.Op {
	case api.InferInt:
		return typed(integer{})
	case api.InferPlace:
		return typed(place{})
	case api.InferVar:
		return variable(t.N)
	}
	return typed(channel{list.Each(t.Kids, func(k api.InferType) *node { return build(k, variable) })})
}

// opens returns variables that can become any types: one for each number.
func opens() func(n int) *node {
	made := map[int]*node{}
	return func(n int) *node {
		if made[n] == nil {
			made[n] = typed(open{})
		}
		return made[n]
	}
}

// own returns a variable that is a type of its own.
func own(n int) *node { return typed(fixed{n}) }

// writer writes types, with variables that are numbered anew.
type writer struct {
	numbers map[*node]int
	next    int
	long    bool // something could not be written: there is too much of it
}

func newWriter() *writer { return &writer{numbers: map[*node]int{}} }

// scheme writes a type of which some variables are general: these are not those
// with the same nodes in other types.
func (w *writer) scheme(t *node, general map[*node]bool) api.InferScheme {
	var s api.InferScheme
	for v := range variables(t) {
		if _, is := w.numbers[v]; !is {
			w.numbers[v] = w.next
			w.next++
		}
		if general[v] {
			s.All = append(s.All, w.numbers[v])
		}
	}
	if w.next > api.InferVars+1 || large(t) {
		w.long = true
		return api.InferScheme{}
	}
	s.Type = w.write(t)
	for v := range general {
		delete(w.numbers, v)
	}
	return s
}

// large reports whether a type has more nodes than are allowed.
func large(t *node) bool {
	count := 0
	for range nodes(t) {
		count++
		if count > api.InferMost {
			return true
		}
	}
	return false
}

func (w *writer) write(t *node) api.InferType {
	t = t.end()
	switch k := t.kind.(type) {
	case integer:
		return api.InferType{Op: api.InferInt}
	case place:
		return api.InferType{Op: api.InferPlace}
	case channel:
		return api.InferType{Op: api.InferChan, Kids: list.Each(k.brings, w.write)}
	}
	return api.InferType{Op: api.InferVar, N: w.numbers[t]}
}

// typing returns the types of a process with these free names.
func (s *scope) typing(free []string) (api.InferTyping, api.Errno) {
	w := newWriter()
	var y api.InferTyping
	for _, name := range free {
		y.Free = append(y.Free, w.scheme(s.names[name], nil).Type)
	}
	for _, d := range s.defs {
		y.Defs = append(y.Defs, list.Each(d.channels, func(name string) api.InferScheme {
			return w.scheme(d.names[name], d.general)
		}))
	}
	if w.long {
		return api.InferTyping{}, api.ErrLong
	}
	return y, api.OK
}
