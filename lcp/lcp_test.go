package lcp_test

import (
	"math"
	"math/rand"
	"slices"
	"strings"
	"testing"

	. "gladstone/lcp"
	"gladstone/suffix"
)

func TestOf(t *testing.T) {
	for _, c := range []struct {
		s          string
		i, k, want int
	}{{"banana", 1, 3, 3}, {"banana", 3, 1, 3}, {"banana", 0, 0, 6}, {"banana", 6, 6, 0}, {"banana", 6, 0, 0}, {"banana", 2, 4, 2},
		{"banana", -1, 1, 0}, {"banana", 1, -1, 0}, {"banana", 7, 1, 0}, {"banana", 1, 7, 0}, {"", 0, 0, 0}, {"a", math.MaxInt, math.MinInt, 0}} {
		if got := Of(c.s, c.i, c.k); got != c.want {
			t.Errorf("Of(%q, %d, %d): %d", c.s, c.i, c.k, got)
		}
	}
}

func TestRow(t *testing.T) {
	if got := Row("banana", suffix.Sort("banana")); !slices.Equal(got, []int{0, 1, 3, 0, 0, 2}) {
		t.Error(got)
	}
	rnd := rand.New(rand.NewSource(1))
	for range 300 {
		b := make([]byte, rnd.Intn(80))
		for i := range b {
			b[i] = byte('a' + rnd.Intn(1+rnd.Intn(4)))
		}
		s := string(b)
		a := suffix.Sort(s)
		row := Row(s, a)
		if len(row) != len(a) {
			t.Fatal(s)
		}
		for j := range row {
			want := 0
			if j > 0 {
				for want < len(s)-max(a[j], a[j-1]) && s[a[j]+want] == s[a[j-1]+want] {
					want++
				}
			}
			if row[j] != want {
				t.Fatalf("%q: %v", s, row)
			}
		}
	}
}

func TestRowOfOthers(t *testing.T) {
	for _, a := range [][]int{nil, {0, 1, 2}, {2, 1}, {2, 1, 0, 3}, {-1, 5, 2}} {
		if got := Row("cba", append([]int{}, a...)); got != nil && len(got) > 0 {
			t.Error(a, got)
		}
	}
	if len(Row("", nil)) != 0 {
		t.Error("of nothing")
	}
	s := strings.Repeat("a", 200000)
	row := Row(s, suffix.Sort(s))
	if row[199999] != 199999 {
		t.Error("many alike")
	}
}
