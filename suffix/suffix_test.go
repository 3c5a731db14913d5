package suffix_test

import (
	"math/rand"
	"slices"
	"sort"
	"strings"
	"testing"
	"time"

	. "gladstone/suffix"
)

func slowSort(s string) []int {
	a := make([]int, len(s))
	for i := range a {
		a[i] = i
	}
	sort.Slice(a, func(i, k int) bool { return s[a[i]:] < s[a[k]:] })
	return a
}

func texts() []string {
	out := []string{"", "a", "ab", "ba", "banana", "\xff\x00\xff", strings.Repeat("a", 100), strings.Repeat("ab", 77), "mississippi"}
	rnd := rand.New(rand.NewSource(1))
	for range 400 {
		b := make([]byte, rnd.Intn(60))
		few := 1 + rnd.Intn(4)
		for i := range b {
			b[i] = byte(254 + rnd.Intn(few))
		}
		out = append(out, string(b), strings.Repeat(string(b), 3))
	}
	return out
}

func TestSort(t *testing.T) {
	if !slices.Equal(Sort("banana"), []int{5, 3, 1, 0, 4, 2}) {
		t.Error(Sort("banana"))
	}
	for _, s := range texts() {
		a := Sort(s)
		if !slices.Equal(a, slowSort(s)) {
			t.Fatalf("%q: %v", s, a)
		}
		if !Is(s, a) {
			t.Fatalf("%q is not", s)
		}
	}
}

func TestIsRefuses(t *testing.T) {
	for _, a := range [][]int{nil, {5, 3, 1, 0, 4}, {5, 3, 1, 0, 4, 2, 6}, {5, 3, 1, 0, 2, 4}, {5, 5, 5, 5, 5, 5}, {-1, 3, 1, 0, 4, 2}, {6, 3, 1, 0, 4, 2}, {0, 1, 2, 3, 4, 5}} {
		if Is("banana", a) {
			t.Error(a)
		}
	}
	if !Is("", nil) || Is("", []int{0}) {
		t.Error("of nothing")
	}
	for _, s := range texts() {
		a := slowSort(s)
		for j := 1; j < len(a); j++ {
			a[j-1], a[j] = a[j], a[j-1]
			if Is(s, a) {
				t.Fatalf("%q, %v", s, a)
			}
			a[j-1], a[j] = a[j], a[j-1]
		}
	}
}

func TestRanks(t *testing.T) {
	for _, c := range []struct{ a, want []int }{{nil, nil}, {[]int{2, 0, 1}, []int{1, 2, 0}}, {[]int{1, 1, 7}, []int{-1, 0, -1}}, {[]int{-1, 3, 0, 0}, []int{2, -1, -1, 1}}} {
		if got := Ranks(c.a); !slices.Equal(got, c.want) {
			t.Error(c.a, got)
		}
	}
}

func TestManyBytesAlike(t *testing.T) {
	from := time.Now()
	s := strings.Repeat("ab", 1<<17)
	if !Is(s, Sort(s)) || time.Since(from) > 20*time.Second {
		t.Error("a long text of few bytes", time.Since(from))
	}
}
