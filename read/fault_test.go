package read_test

import (
	"slices"
	"strings"
	"testing"

	"cabotage/api"
	"cabotage/read"
)

// P2.2

func TestFaults(t *testing.T) {
	for s, want := range map[string]api.ReadFault{
		"x( 1 | 2)":                    {At: 5, Line: 1, Text: "|"},
		"go 5":                         {At: 3, Line: 1, Text: "5"},
		"x() $":                        {At: 4, Line: 1, Text: "$"},
		"def x() = 0":                  {At: 11, Line: 1},
		"1":                            {At: 0, Line: 1, Text: "1"},
		"~1":                           {At: 0, Line: 1, Text: "~1"},
		"":                             {At: 0, Line: 1},
		" \n\n ":                       {At: 4, Line: 3},
		"go a // b":                    {At: 9, Line: 1},
		"go a // b\n":                  {At: 10, Line: 2},
		"$":                            {At: 0, Line: 1, Text: "$"},
		"\n\xc3\xa9":                   {At: 1, Line: 2, Text: "\xc3"},
		"0 0 $":                        {At: 2, Line: 1, Text: "0"},
		"x( $ |":                       {At: 3, Line: 1, Text: "$"},
		"0 | 07":                       {At: 4, Line: 1, Text: "0"},
		"07":                           {At: 0, Line: 1, Text: "0"},
		"x(07)":                        {At: 2, Line: 1, Text: "0"},
		"def abcdefghi() = 0 in 0":     {At: 4, Line: 1, Text: "a"},
		"x(~0)":                        {At: 2, Line: 1, Text: "~"},
		"0 /":                          {At: 2, Line: 1, Text: "/"},
		"0 0":                          {At: 2, Line: 1, Text: "0"},
		"0\n== 0":                      {At: 2, Line: 2, Text: "=="},
		"stop stop":                    {At: 5, Line: 1, Text: "stop"},
		"(0":                           {At: 2, Line: 1},
		"(0))":                         {At: 3, Line: 1, Text: ")"},
		"()":                           {At: 1, Line: 1, Text: ")"},
		"0 |":                          {At: 3, Line: 1},
		"| 0":                          {At: 0, Line: 1, Text: "|"},
		"x":                            {At: 1, Line: 1},
		"x 0":                          {At: 2, Line: 1, Text: "0"},
		"x(,)":                         {At: 2, Line: 1, Text: ","},
		"x(1,)":                        {At: 4, Line: 1, Text: ")"},
		"x(1 2)":                       {At: 4, Line: 1, Text: "2"},
		"x(stop)":                      {At: 2, Line: 1, Text: "stop"},
		"x(y())":                       {At: 3, Line: 1, Text: "("},
		"x(1 < 2 == 3)":                {At: 8, Line: 1, Text: "=="},
		"x(1 < 2 < 3)":                 {At: 8, Line: 1, Text: "<"},
		"x((1 < 2) == 3 < 4)":          {At: 15, Line: 1, Text: "<"},
		"x(- 1)":                       {At: 2, Line: 1, Text: "-"},
		"x(1 +)":                       {At: 5, Line: 1, Text: ")"},
		"go a":                         {At: 4, Line: 1},
		"go a 0":                       {At: 5, Line: 1, Text: "0"},
		"go stop; 0":                   {At: 3, Line: 1, Text: "stop"},
		"watch a; ;":                   {At: 9, Line: 1, Text: ";"},
		"go a; 0 | go a; 0 | ; 0":      {At: 20, Line: 1, Text: ";"},
		"if 0 then 0":                  {At: 11, Line: 1},
		"if then":                      {At: 3, Line: 1, Text: "then"},
		"if 0 else":                    {At: 5, Line: 1, Text: "else"},
		"if 0 then 0 | else":           {At: 14, Line: 1, Text: "else"},
		"if a then if b then 0 else 0": {At: 28, Line: 1},
		"def in 0":                     {At: 4, Line: 1, Text: "in"},
		"def x() in 0":                 {At: 8, Line: 1, Text: "in"},
		"def x() = 0 and in 0":         {At: 16, Line: 1, Text: "in"},
		"def x() = 0 0":                {At: 12, Line: 1, Text: "0"},
		"def x(1) = 0 in 0":            {At: 6, Line: 1, Text: "1"},
		"def x(a,) = 0 in 0":           {At: 8, Line: 1, Text: ")"},
		"def x() & = 0 in 0":           {At: 10, Line: 1, Text: "="},
		"def x() & place p":            {At: 10, Line: 1, Text: "place"},
		"def x() == 0 in 0":            {At: 8, Line: 1, Text: "=="},
		"def place in":                 {At: 10, Line: 1, Text: "in"},
		"def place p in":               {At: 12, Line: 1, Text: "in"},
		"def place p { }":              {At: 14, Line: 1, Text: "}"},
		"def place p { x() in 0 }":     {At: 18, Line: 1, Text: "in"},
		"def place p { 0 }":            {At: 14, Line: 1, Text: "0"},
		"def place p { in 0 in 0":      {At: 19, Line: 1, Text: "in"},
		"place p { in 0 }":             {At: 0, Line: 1, Text: "place"},
		"def x() = 0 in 0 and":         {At: 17, Line: 1, Text: "and"},
		"(def x() = 0 in 0) in":        {At: 19, Line: 1, Text: "in"},
	} {
		if f, e := read.Fault(s); f != want || e != api.OK {
			t.Errorf("%q: %v, error %d, not %v", s, f, e, want)
		}
	}
	for _, s := range derivable {
		if f, e := read.Fault(s); f != (api.ReadFault{}) || e != api.ErrNone {
			t.Errorf("%q: %v, error %d", s, f, e)
		}
	}
}

// derivable are sources that can be derived; some are not formed.
var derivable = []string{
	"0", "stop", "x()", "(0)", "((stop))", example, "0 // 07", "go a; if 1 then 0 else x() | 0", "x(1000000001)", "x(1, 2, 3, 4, 5)",
	"def x() = 0 and x(a) = 0 in 0", "def x(a, a) = 0 in 0", "def x() = def y() = 0 and z() = 0 in 0 and w() = 0 in 0",
	"if a then if b then 0 else 0 else 0", "def place p { x() = 0 and place q { in 0 } in 0 } in 0", "x(a + b * c - d == (1 < 2))",
	"0 | def x() = 0 in 0 | 0", strings.Repeat("(", 2999) + "0" + strings.Repeat(")", 2999), "x(" + strings.Repeat("(", 2997) + "0" + strings.Repeat(")", 2997) + ")",
	strings.Repeat("0|", 2999) + "0", "x(1" + strings.Repeat("+1", 2997) + ")", strings.Repeat("go a;", 1199) + "0",
}

func TestRests(t *testing.T) {
	for s, want := range map[string]string{
		"def x(": ") = 0 in 0", "if": "0 then 0 else 0", "": "0", "x(1 <": "0 )", "go": "a ; 0",
		"// a":                                  "0",
		"0 |":                                   "0",
		"(":                                     "0 )",
		"x":                                     "( )",
		"x(":                                    ")",
		"x(1":                                   ")",
		"x(1,":                                  "0 )",
		"x(a *":                                 "0 )",
		"x(a ==":                                "0 )",
		"x((":                                   "0 ) )",
		"x((1 - (2":                             ") ) )",
		"go a":                                  "; 0",
		"watch":                                 "a ; 0",
		"watch p;":                              "0",
		"if 1":                                  "then 0 else 0",
		"if 1 then":                             "0 else 0",
		"if 1 then 0":                           "else 0",
		"if 1 then 0 |":                         "0 else 0",
		"if a then if b then 0 else 0":          "else 0",
		"def":                                   "a ( ) = 0 in 0",
		"def x":                                 "( ) = 0 in 0",
		"def x(a":                               ") = 0 in 0",
		"def x(a,":                              "a ) = 0 in 0",
		"def x()":                               "= 0 in 0",
		"def x() &":                             "a ( ) = 0 in 0",
		"def x() =":                             "0 in 0",
		"def x() = 0":                           "in 0",
		"def x() = 0 and":                       "a ( ) = 0 in 0",
		"def x() = 0 in":                        "0",
		"def place":                             "a { in 0 } in 0",
		"def place p":                           "{ in 0 } in 0",
		"def place p {":                         "in 0 } in 0",
		"def place p { in":                      "0 } in 0",
		"def place p { in 0":                    "} in 0",
		"def place p { in 0 }":                  "in 0",
		"def place p { x() = 0":                 "in 0 } in 0",
		"def place p { x() = 0 and":             "a ( ) = 0 in 0 } in 0",
		"def place p { place q { in def x(":     ") = 0 in 0 } in 0 } in 0",
		"def x() = def y() = 0 in (go p; (z(1,": "0 ) ) ) in 0",
	} {
		if r, e := read.Rest(s); r != want || e != api.OK {
			t.Errorf("%q: %q, error %d, not %q", s, r, e, want)
		}
	}
	for _, s := range derivable {
		if r, e := read.Rest(s); r != "" || e != api.OK {
			t.Errorf("%q: %q, error %d", s, r, e)
		}
	}
	for _, s := range []string{"x)", "0 0", "0 $", "$", "$ 0", "def x(07", "def x() = 0 in 07", "x(1 < 2 <", "def x() = 0 in abcdefghi", "~0", "0 | /", "1", "def def"} {
		if r, e := read.Rest(s); r != "" || e != api.ErrText {
			t.Errorf("%q: %q, error %d", s, r, e)
		}
	}
}

func TestFaultsOfLongSources(t *testing.T) {
	for _, s := range []string{blanks(api.ReadLong + 1), blanks(api.ReadLong) + "$", "0" + blanks(api.ReadLong)} {
		f, e := read.Fault(s)
		r, err := read.Rest(s)
		if f != (api.ReadFault{}) || r != "" || e != api.ErrLong || err != api.ErrLong {
			t.Error(f, r, e, err)
		}
	}
	s := blanks(api.ReadLong)
	f, e := read.Fault(s)
	r, err := read.Rest(s)
	if f != (api.ReadFault{At: api.ReadLong, Line: 1}) || r != "0" || e != api.OK || err != api.OK {
		t.Error(f, r, e, err)
	}
	r, e = read.Rest(strings.Repeat("(", api.ReadLong))
	if r != "0"+strings.Repeat(" )", api.ReadLong) || e != api.OK {
		t.Error(len(r), e)
	}
}

// TestFaultsByChance holds faults against what the grammar says: which tokens are
// a beginning.
func TestFaultsByChance(t *testing.T) {
	m := newMaker(2)
	for range 4000 {
		l := m.spoilt(m.process(25))
		source := m.spread(l)
		n, ok := begins("process", l)
		f, e := read.Fault(source)
		if ok != (e == api.ErrNone) {
			t.Fatalf("%q: %v, error %d", source, f, e)
		}
		if ok {
			continue
		}
		want := api.ReadFault{At: len(source), Line: 1 + strings.Count(source, "\n")}
		if n < len(l) {
			k, _ := read.Tokens(source)
			want = api.ReadFault{At: k[n].At, Line: k[n].Line, Text: l[n]}
		}
		if f != want || e != api.OK {
			t.Fatalf("%q: %v, error %d, not %v", source, f, e, want)
		}
		if r, e := read.Rest(source); (e == api.OK) != (n == len(l)) || e != api.OK && (e != api.ErrText || r != "") {
			t.Fatalf("%q: %q, error %d", source, r, e)
		}
		goesOn(t, source, f)
	}
}

// goesOn asks that what is in front of a fault can be continued, but not with the
// token of the fault behind it.
func goesOn(t *testing.T, source string, f api.ReadFault) {
	t.Helper()
	front := source[:f.At]
	r, e := read.Rest(front)
	if e != api.OK {
		t.Fatalf("%q: error %d", front, e)
	}
	if _, e := read.Fault(front + "\n" + r); e != api.ErrNone {
		t.Fatalf("%q with %q: error %d", front, r, e)
	}
	if r, e := read.Rest(front + f.Text); f.Text != "" && e != api.ErrText {
		t.Fatalf("%q: %q, error %d", front+f.Text, r, e)
	}
}

// TestFaultsOfBytes: a byte that is in no token is a fault unless a token before it
// is one.
func TestFaultsOfBytes(t *testing.T) {
	m := newMaker(3)
	for range 1000 {
		l := m.process(12)
		if m.IntN(2) == 0 {
			l = m.spoilt(l)
		}
		at := m.IntN(len(l) + 1)
		front := strings.Join(l[:at], " ") + " "
		source := front + "~ " + strings.Join(l[at:], " ")
		want := api.ReadFault{At: len(front), Line: 1, Text: "~"}
		if n, _ := begins("process", l[:at]); n < at {
			want.At, want.Text = len(strings.Join(append(slices.Clone(l[:n]), ""), " ")), l[n]
		}
		if f, e := read.Fault(source); f != want || e != api.OK {
			t.Fatalf("%q: %v, error %d, not %v", source, f, e, want)
		}
		if r, e := read.Rest(source); r != "" || e != api.ErrText {
			t.Fatalf("%q: %q, error %d", source, r, e)
		}
		goesOn(t, source, want)
	}
}

// TestFewestTokens goes through all rows of tokens that can stand behind a
// beginning.
func TestFewestTokens(t *testing.T) {
	m := newMaker(4)
	tried := map[int]int{}
	for range 3000 {
		l := m.process(15)
		l = l[:m.IntN(len(l)+1)]
		r, e := read.Rest(strings.Join(l, " "))
		got := strings.Fields(r)
		if e != api.OK {
			t.Fatalf("%q: error %d", l, e)
		}
		if len(got) > 5 || tried[len(got)] > 60 {
			continue
		}
		tried[len(got)]++
		if want := fewest(t, l); !slices.Equal(got, want) {
			t.Fatalf("%q: %q, not %q", l, got, want)
		}
	}
	if len(tried) != 6 {
		t.Error(tried)
	}
}

// fewest returns the rest of a beginning.
func fewest(t *testing.T, l []string) []string {
	c := newChart("process")
	for _, s := range l {
		c.push(s)
	}
	var rows [][]string
	var search func(row []string, n int)
	search = func(row []string, n int) {
		if n == 0 {
			if c.derived("process") {
				rows = append(rows, slices.Clone(row))
			}
			return
		}
		for _, s := range puts {
			if c.push(s) {
				search(append(row, s), n-1)
				c.pop()
			}
		}
	}
	for n := 0; rows == nil; n++ {
		search(nil, n)
	}
	for at := range rows[0] {
		same := func(row []string) bool { return row[at] == rows[0][at] }
		if slices.ContainsFunc(rows, func(row []string) bool { return !same(row) }) {
			rows = slices.DeleteFunc(rows, func(row []string) bool { return row[at] != "0" })
		}
		if len(rows) == 0 {
			t.Fatalf("%q: rows differ, and none has 0", l)
		}
	}
	return rows[0]
}
