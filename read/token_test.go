package read_test

import (
	"regexp"
	"slices"
	"strings"
	"testing"

	"cabotage/api"
	"cabotage/read"
)

// P2.1

func TestTokenTexts(t *testing.T) {
	for _, x := range []struct {
		source string
		texts  string // with blanks between
		kinds  string
	}{
		{"a==b=c<~5//d", "a == b = c < ~5", "nsnsnsi"},
		{"", "", ""},
		{" \t\n", "", ""},
		{"// def", "", ""},
		{"a//b\nc", "a c", "nn"},
		{"a// b // c\n// d\n//\n0", "a 0", "ni"},
		{"a //", "a", "n"},
		{"and def else go if in place stop then watch", "and def else go if in place stop then watch", "wwwwwwwwww"},
		{"an ando goo stops defi i", "an ando goo stops defi i", "nnnnnn"},
		{"(){},;|&===<+-*", "( ) { } , ; | & == = < + - *", "ssssssssssssss"},
		{"====", "== ==", "ss"},
		{"= =", "= =", "ss"},
		{"=//\n=", "= =", "ss"},
		{"<==", "< ==", "ss"},
		{"abcdefgh", "abcdefgh", "n"},
		{"1234567890", "1234567890", "i"},
		{"~1234567890", "~1234567890", "i"},
		{"9999999999", "9999999999", "i"},
		{"0 ~1 10 ~10", "0 ~1 10 ~10", "iiii"},
		{"a1b2", "a 1 b 2", "nini"},
		{"in5", "in 5", "wi"},
		{"1~2", "1 ~2", "ii"},
		{"3-~4", "3 - ~4", "isi"},
		{"-5", "- 5", "si"},
	} {
		l, e := read.Tokens(x.source)
		if e != api.OK || len(l) != len(x.kinds) {
			t.Errorf("%q: %v, error %d", x.source, l, e)
			continue
		}
		for i, k := range l {
			if k.Text != strings.Fields(x.texts)[i] || "?nwis"[k.Kind] != x.kinds[i] {
				t.Errorf("%q: token %d is %v", x.source, i, k)
			}
		}
	}
}

func TestTokenPlaces(t *testing.T) {
	l, e := read.Tokens("a\n\n b //\n// x\n\t==(12\n")
	want := []api.ReadToken{
		{Kind: api.ReadName, Text: "a", At: 0, Line: 1},
		{Kind: api.ReadName, Text: "b", At: 4, Line: 3},
		{Kind: api.ReadSign, Text: "==", At: 15, Line: 5},
		{Kind: api.ReadSign, Text: "(", At: 17, Line: 5},
		{Kind: api.ReadInt, Text: "12", At: 18, Line: 5},
	}
	if e != api.OK || !slices.Equal(l, want) {
		t.Errorf("%v, error %d", l, e)
	}
}

func TestNoTokens(t *testing.T) {
	for _, s := range []string{
		"07", "00", "~0", "~07", "~", "~~1", "~a", "- ~", "12345678901", "~12345678901", "abcdefghi", "placeplace", "a /", "/", "/ /", "a/b",
		"A", "aB", "a_b", "!", "!=", "a\r\n", "a\v", "a\f", "\x00", "\u00a0", "é", "\xff", "[", "a:b", ">", "\"", "0.5", "$",
	} {
		if l, e := read.Tokens(s); l != nil || e != api.ErrText {
			t.Errorf("%q: %v, error %d", s, l, e)
		}
		if l, e := read.Tokens("a // " + s); len(l) != 1 || e != api.OK {
			t.Errorf("%q in a comment: %v, error %d", s, l, e)
		}
	}
}

// TestBytes asks each byte between two names.
func TestBytes(t *testing.T) {
	for c := range 256 {
		l, e := read.Tokens("a" + string([]byte{byte(c)}) + "b")
		want, err := 0, api.ErrText
		switch {
		case c == 32 || c == 9 || c == 10:
			want, err = 2, api.OK
		case 'a' <= c && c <= 'z':
			want, err = 1, api.OK
		case '0' <= c && c <= '9' || strings.IndexByte("(){},;|&=<+-*", byte(c)) >= 0:
			want, err = 3, api.OK
		}
		if len(l) != want || e != err {
			t.Errorf("byte %d: %v, error %d", c, l, e)
		}
	}
}

func TestLongSources(t *testing.T) {
	if l, e := read.Tokens(blanks(api.ReadLong-1) + "0"); len(l) != 1 || e != api.OK {
		t.Error(l, e)
	}
	if l, e := read.Tokens(strings.Repeat("0 ", api.ReadLong/2)); len(l) != api.ReadLong/2 || e != api.OK {
		t.Error(len(l), e)
	}
	// ErrLong comes before ErrText.
	for _, s := range []string{blanks(api.ReadLong + 1), blanks(api.ReadLong) + "$", "$" + blanks(api.ReadLong), strings.Repeat("/", 1<<20)} {
		if l, e := read.Tokens(s); l != nil || e != api.ErrLong {
			t.Error(len(s), l, e)
		}
	}
}

// TestTokensByChance holds tokens against those of a regular expression.
func TestTokensByChance(t *testing.T) {
	gap := regexp.MustCompile(`^([ \t\n]|//[^\n]*)*`)
	piece := regexp.MustCompile(`^([a-z]+|~?[0-9]+|==|[(){},;|&=<+*-])`)
	bits := strings.Split("a,b,in,go,abcdefg,abcdefgh,0,1,12,345,123456789,~,=,==,/,//, , ,\n,\t,(,),{,},;,|,&,<,+,-,*,$", ",")
	m := newMaker(1)
	good := 0
	for range 20000 {
		var b strings.Builder
		for range m.IntN(9) {
			b.WriteString(bits[m.IntN(len(bits))])
		}
		source := b.String() + []string{"", ","}[m.IntN(2)]
		var want []api.ReadToken
		ok := true
		at := len(gap.FindString(source))
		for ok && at < len(source) {
			s := piece.FindString(source[at:])
			kind := api.ReadSign
			switch {
			case slices.Contains(keywords, s):
				kind = api.ReadWord
			case isName(s):
				kind = api.ReadName
			case isInt(s):
				kind = api.ReadInt
			case !slices.Contains(signs, s):
				ok = false
			}
			want = append(want, api.ReadToken{Kind: kind, Text: s, At: at, Line: 1 + strings.Count(source[:at], "\n")})
			at += len(s)
			at += len(gap.FindString(source[at:]))
		}
		err := api.OK
		if !ok {
			want, err = nil, api.ErrText
		} else {
			good++
		}
		if l, e := read.Tokens(source); e != err || !slices.Equal(l, want) {
			t.Fatalf("%q: %v, error %d, not %v", source, l, e, want)
		}
	}
	if good < 5000 {
		t.Error(good)
	}
}
