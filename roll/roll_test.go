package roll_test

import (
	"math"
	"math/big"
	"math/rand"
	"slices"
	"strings"
	"testing"

	"gladstone/api"
	. "gladstone/roll"
)

func TestHash(t *testing.T) {
	if Hash("") != 0 || Hash("\x00") != 1 || Hash("a") != 98 || Hash("ab") != 98*257+99 {
		t.Error(Hash("ab"))
	}
	h := new(big.Int)
	s := strings.Repeat("gladstone\xff\x00", 90)
	for i := range len(s) {
		h.Mul(h, big.NewInt(257))
		h.Add(h, big.NewInt(int64(s[i])+1))
		h.Mod(h, big.NewInt(1<<31-1))
	}
	if int64(Hash(s)) != h.Int64() {
		t.Error(Hash(s))
	}
}

func TestRoll(t *testing.T) {
	rnd := rand.New(rand.NewSource(1))
	for range 300 {
		b := make([]byte, 2+rnd.Intn(500))
		rnd.Read(b)
		s, n := string(b), len(b)-1
		if h, e := Roll(Hash(s[:n]), s[0], s[n], n); h != Hash(s[1:]) || e != api.OK {
			t.Fatal(n, h, e)
		}
	}
	long := strings.Repeat("xy", 1<<19) + "z"
	if h, e := Roll(Hash(long[:1<<20]), 'x', 'z', 1<<20); h != Hash(long[1:]) || e != api.OK {
		t.Error("the longest", e)
	}
	if h, e := Roll(Hash("a"), 'a', 'b', 1); h != Hash("b") || e != api.OK {
		t.Error("one byte", h, e)
	}
	if _, e := Roll(0, 'a', 'b', 5); e != api.OK {
		t.Error("the least", e)
	}
	for _, c := range [][2]int{{0, 0}, {0, -1}, {0, 1<<20 + 1}, {-1, 5}, {1<<31 - 1, 5}, {math.MinInt, 5}, {5, math.MaxInt}} {
		if h, e := Roll(c[0], 1, 2, c[1]); h != 0 || e != api.ErrArg {
			t.Error(c, h, e)
		}
	}
	if h, e := Roll(1<<31-2, 255, 255, 7); h < 0 || h > 1<<31-2 || e != api.OK {
		t.Error("the greatest", h, e)
	}
}

func TestFind(t *testing.T) {
	if !slices.Equal(Find("aaa", "aa"), []int{0, 1}) || !slices.Equal(Find("ab", ""), []int{0, 1, 2}) || !slices.Equal(Find("", ""), []int{0}) || Find("", "a") != nil || Find("ab", "abc") != nil {
		t.Error("the examples")
	}
	rnd := rand.New(rand.NewSource(2))
	for range 500 {
		b := make([]byte, rnd.Intn(60))
		for i := range b {
			b[i] = byte('a' + rnd.Intn(2))
		}
		s := string(b)
		from := rnd.Intn(len(s) + 1)
		p := s[from : from+rnd.Intn(min(8, len(s)-from)+1)]
		var want []int
		for i := 0; i+len(p) <= len(s); i++ {
			if s[i:i+len(p)] == p {
				want = append(want, i)
			}
		}
		if got := Find(s, p); !slices.Equal(got, want) {
			t.Fatalf("%q in %q: %v", p, s, got)
		}
	}
	s := strings.Repeat("a", 1<<20)
	if got := Find(s, s[1<<19:]); len(got) != 1<<19+1 {
		t.Error("many alike", len(got))
	}
}
