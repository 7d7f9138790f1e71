package sample_test

import (
	"testing"

	"cabotage/api"
	"cabotage/sample"
	"cabotage/show"
	"cabotage/sol"
)

func TestBound(t *testing.T) {
	p, e := sample.Bound("def x(a) = out(a) in x(1)")
	if e != api.OK || sample.Source(p) != "def a(b) = out(b) in a(1)" {
		t.Error(sample.Source(p), e)
	}
	if p, e := sample.Bound("def x(a) = in"); e != api.ErrText || len(p.Nodes) > 0 {
		t.Error(p, e)
	}
	if p, e := sample.Bound("a() | (b() | (c() | (d() | (e() | (f() | (g() | h(i, j, k)))))) | (l() | (m() | n())))"); e != api.ErrLong || len(p.Nodes) > 0 {
		t.Error(p, e)
	}
	if s := sample.Source(api.ScopeProg{}); s != "a program without a process" {
		t.Error(s)
	}
}

func TestSolutions(t *testing.T) {
	n, later := 0, 0
	for p, s := range sample.Solutions(chance(6).IntN, 200) {
		if e := sol.Check(p, s); e != api.OK {
			t.Fatal(sample.Source(p), show.Sol(s), e)
		}
		n++
		if first, _, _ := sol.First(p); show.Sol(first) != show.Sol(s) {
			later++
		}
		clear(s.Spots) // the asker's own
		clear(s.Groups)
	}
	if n < 600 || later < 400 {
		t.Error(n, later)
	}
	for range sample.Solutions(chance(6).IntN, 200) {
		break // whoever asks may stop
	}
}

func TestFormed(t *testing.T) {
	n, changed, last := 0, 0, ""
	is := func(p api.ScopeProg, s api.Sol) bool { return sol.Check(p, s) == api.OK }
	for p, s := range sample.Formed(chance(7).IntN, 200, is) {
		if !is(p, s) {
			t.Fatal(sample.Source(p), show.Sol(s))
		}
		n++
		if text := show.Sol(s); text != last {
			changed, last = changed+1, text
		}
		clear(s.Spots) // the asker's own
	}
	if n < 1500 || changed < n*3/4 {
		t.Error(n, changed)
	}
	for range sample.Formed(chance(7).IntN, 200, is) {
		break // whoever asks may stop
	}
	// What is not formed does not come, but for what runs have.
	runs := 0
	for range sample.Formed(chance(6).IntN, 200, func(api.ScopeProg, api.Sol) bool { return false }) {
		runs++
	}
	if runs < 600 {
		t.Error(runs)
	}
}
