package list_test

import (
	"math"
	"slices"
	"strings"
	"testing"

	"cabotage/list"
)

func TestEach(t *testing.T) {
	l := []string{"b", "", "a"}
	if got := list.Each(l, func(s string) int { return len(s) }); !slices.Equal(got, []int{1, 0, 1}) {
		t.Error(got)
	}
	// The elements of a result are new ones, in the order of the list.
	got := list.Each(l, strings.ToUpper)
	got[0] = "c"
	if l[0] != "b" || got[2] != "A" {
		t.Error(l, got)
	}
	if got := list.Each(nil, strings.ToUpper); got != nil {
		t.Error(got)
	}
}

func TestAll(t *testing.T) {
	even := func(n int) bool { return n%2 == 0 }
	for _, c := range []struct {
		l    []int
		want bool
	}{{nil, true}, {[]int{2}, true}, {[]int{2, 4}, true}, {[]int{1}, false}, {[]int{1, 2}, false}, {[]int{2, 1}, false}} {
		if list.All(c.l, even) != c.want {
			t.Error(c.l)
		}
	}
}

func TestNumbered(t *testing.T) {
	for _, c := range []struct {
		n, many int
		want    bool
	}{{0, 1, true}, {2, 3, true}, {3, 3, false}, {0, 0, false}, {-1, 3, false}, {math.MaxInt, 3, false}, {math.MinInt, 3, false}, {-1, -1, false}} {
		if list.Numbered(c.n, c.many) != c.want {
			t.Error(c)
		}
	}
}
