package infer

// node is a type.
type node struct {
	kind
	now *node // the type that it has become; nil while it is itself
}

// kind is what a type is.
type kind interface {
	// kids returns the types within a type, in order.
	kids() []*node
	// fits reports whether a type can be equal to one of another kind if the types
	// within them can.
	fits(other kind) bool
}

type integer struct{}

type place struct{}

type channel struct{ brings []*node }

// open is a variable: it can become any type.
type open struct{}

// fixed is a variable that is a type of its own.
type fixed struct{ number int }

func (integer) kids() []*node { return nil }

func (place) kids() []*node { return nil }

func (c channel) kids() []*node { return c.brings }

func (open) kids() []*node { return nil }

func (fixed) kids() []*node { return nil }

func (integer) fits(other kind) bool {
	_, is := other.(integer)
	return is
}

func (place) fits(other kind) bool {
	_, is := other.(place)
	return is
}

func (c channel) fits(other kind) bool {
	d, is := other.(channel)
	return is && len(d.brings) == len(c.brings)
}

func (open) fits(kind) bool { return true }

func (f fixed) fits(other kind) bool {
	g, is := other.(fixed)
	return is && g == f
}

func typed(k kind) *node { return &node{kind: k} }

// end returns what a type has become.
func (n *node) end() *node {
	if n.now == nil {
		return n
	}
	n.now = n.now.end() // the way is shorter the next time
	return n.now
}

// clash is what types that cannot be equal panic with.
type clash struct{}

// possible reports whether something is done without a clash.
func possible(do func()) (done bool) {
	defer func() {
		if r := recover(); r != nil {
			if _, is := r.(clash); !is {
				panic(r)
			}
		}
	}()
	do()
	return true
}

// equate makes two types equal.
func equate(a, b *node) {
	merge(a, b)
	finite(a)
}

// merge makes two types equal, even if something then is within itself.
func merge(a, b *node) {
	a, b = a.end(), b.end()
	if a == b {
		return
	}
	if _, is := b.kind.(open); is {
		a, b = b, a
	}
	if !a.fits(b.kind) {
		panic(clash{})
	}
	// Two types are one before those within them are: pairs that stand in many
	// places are merged once, and types that are within themselves come to an end.
	a.now = b
	x, y := a.kids(), b.kids()
	for i := range x {
		merge(x[i], y[i])
	}
}

// finite asks that a type, and those within it, are not within themselves.
func finite(t *node) {
	const (
		entered = 1 + iota
		left
	)
	state := map[*node]int{}
	var visit func(n *node)
	visit = func(n *node) {
		n = n.end()
		switch state[n] {
		case entered:
			panic(clash{})
		case left:
			return
		}
		state[n] = entered
		for _, k := range n.kids() {
			visit(k)
		}
		state[n] = left
	}
	visit(t)
}
