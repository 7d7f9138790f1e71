package read_test

import (
	"slices"
	"strings"
	"testing"

	"cabotage/api"
	"cabotage/read"
)

// P2.3

func TestMends(t *testing.T) {
	for s, want := range map[string]string{
		// nothing is changed
		"0": "0", example: "def x ( a ) & y ( ) = z ( a , b ) and place p { in go q ; x ( 1 ) } in y ( ) | watch p ; 0",
		"x(1000000001, 2, 3, 4)": "x ( 1000000001 , 2 , 3 , 4 )",
		"def x(a, a) = 0 in 0":   "def x ( a , a ) = 0 in 0",
		// without one
		"0 0": "0", "x() | | y()": "x ( ) | y ( )", "x())": "x ( )", "x(1 2)": "x ( 2 )", "in x()": "x ( )", "0 == ": "0", "go a; ; 0": "go a ; 0", "x(,)": "x ( )",
		"x(1 +)": "x ( 1 )", "def x() = 0 in in 0": "def x ( ) = 0 in 0", "0 |": "0",
		"stop 0": "0", "0 stop": "stop", "x(1, , 2)": "x ( 1 , 2 )",
		// with one more
		"": "0", "x(1": "x ( 1 )", "x 1)": "x ( 1 )", "go a 0": "go a ; 0", "go; 0": "go a ; 0", "(x()": "x ( )", "x() y()": "x ( ) | y ( )", "def x() = 0 0": "def x ( ) = 0 in 0",
		"def x() = 0 in": "def x ( ) = 0 in 0", "if 1 then 0 0": "if 1 then 0 else 0", "def place p { 0 } in 0": "def place p { in 0 } in 0", "go a": "", "if then 0 else 0": "if 0 then 0 else 0",
		"x(1 < 2 < 3)": "x ( 1 , 2 < 3 )", "def x() y() = 0 in 0": "def x ( ) & y ( ) = 0 in 0", "if a then if b then 0 else 0": "",
		"x(1 < 2 == 3 + 4)": "x ( 1 , 2 == 3 + 4 )",
		// another one
		"1": "0", ")": "0", "x": "0", "a": "0", "go 5; 0": "go a ; 0", "if 1 do 0 else 0": "if 1 then 0 else 0", "def x{) = 0 in 0": "def x ( ) = 0 in 0", "def x() = 0 or 0": "def x ( ) = 0 in 0", "0 & 0": "0 | 0", "go stop; 0": "go a ; 0",
		"def def() = 0 in 0": "def a ( ) = 0 in 0", "x(stop, 1)": "x ( 0 , 1 )", "x(1; 2)": "x ( 1 , 2 )", "x(a b c)": "x ( a , c )", "def": "0",
		// none
		"; ; ;": "", "1 1": "", "a b": "", "def def": "",
	} {
		if l, e := read.Mend(s); want == "" && (l != nil || e != api.ErrOpen) || want != "" && (strings.Join(l, " ") != want || e != api.OK) {
			t.Errorf("%q: %q, error %d, not %q", s, l, e, want)
		}
	}
}

func TestMendErrors(t *testing.T) {
	forty := "0" + strings.Repeat(" | 0", 19) + " |"
	for s, want := range map[string]api.Errno{
		"$": api.ErrText, "0 07": api.ErrText, "abcdefghi": api.ErrText,
		forty: api.OK, forty + " // 0": api.OK, forty + " 0": api.ErrLong, strings.Repeat("0 ", 41): api.ErrLong,
		// what can be derived as it is may be too long too
		forty[1:] + "0 | 0": api.ErrLong, forty + "0": api.ErrLong,
		// ErrText comes before ErrLong of tokens, behind ErrLong of bytes
		forty + "0 $": api.ErrText, blanks(api.ReadLong) + "$": api.ErrLong, blanks(api.ReadLong): api.OK,
		// ErrLong comes before ErrOpen
		strings.Repeat("; ", 40): api.ErrOpen, strings.Repeat("; ", 41): api.ErrLong,
	} {
		if l, e := read.Mend(s); e != want || (l == nil) != (want != api.OK) {
			t.Errorf("%q: %q, error %d, not %d", s, l, e, want)
		}
	}
	if l, e := read.Mend(forty); len(l) != 39 || e != api.OK {
		t.Error(l, e)
	}
}

// changed goes through tokens with one of them changed, in their order.
func changed(l []string, yield func([]string) bool) {
	if !yield(l) {
		return
	}
	for i := range l {
		if !yield(slices.Delete(slices.Clone(l), i, i+1)) {
			return
		}
	}
	for i := range len(l) + 1 {
		for _, s := range puts {
			if !yield(slices.Insert(slices.Clone(l), i, s)) {
				return
			}
		}
	}
	for i := range l {
		for _, s := range puts {
			if !yield(slices.Replace(slices.Clone(l), i, i+1, s)) {
				return
			}
		}
	}
}

// TestMendsByChance holds what is mended against all changes, in their order.
func TestMendsByChance(t *testing.T) {
	m := newMaker(5)
	found, open := 0, 0
	for range 400 {
		l := m.spoilt(m.process(10))
		var want []string
		for row := range func(yield func([]string) bool) { changed(l, yield) } {
			if _, ok := begins("process", row); ok {
				want = row
				break
			}
		}
		got, e := read.Mend(m.spread(l))
		if !slices.Equal(got, want) || (e == api.OK) != (want != nil) || e != api.OK && e != api.ErrOpen {
			t.Fatalf("%q: %q, error %d, not %q", l, got, e, want)
		}
		if want != nil {
			found++
		} else {
			open++
		}
	}
	if found < 50 || open < 20 {
		t.Error(found, open)
	}
}
