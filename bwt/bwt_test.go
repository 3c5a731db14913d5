package bwt_test

import (
	"math"
	"math/rand"
	"sort"
	"strings"
	"testing"

	"gladstone/api"
	. "gladstone/bwt"
)

func slow(s string) (string, int) {
	ends := make([]int, len(s)+1)
	for i := range ends {
		ends[i] = i
	}
	sort.Slice(ends, func(i, k int) bool { return s[ends[i]:] < s[ends[k]:] })
	t, at := "", 0
	for row, i := range ends {
		if i == 0 {
			at = row
		} else {
			t += s[i-1 : i]
		}
	}
	return t, at
}

func TestTurn(t *testing.T) {
	if x, at := Turn("banana"); x != "annbaa" || at != 4 {
		t.Error(x, at)
	}
	if x, at := Turn(""); x != "" || at != 0 {
		t.Error(x, at)
	}
	rnd := rand.New(rand.NewSource(1))
	for range 300 {
		b := make([]byte, rnd.Intn(80))
		few := 1 + rnd.Intn(5)
		for i := range b {
			b[i] = byte(rnd.Intn(few) * 51)
		}
		x, at := Turn(string(b))
		if y, want := slow(string(b)); x != y || at != want {
			t.Fatalf("%q: %q, %d", b, x, at)
		}
		if s, e := Back(x, at); s != string(b) || e != api.OK {
			t.Fatalf("%q: %q, %d", b, s, e)
		}
	}
}

// TestAllShort holds each t, at of a few bytes against all texts.
func TestAllShort(t *testing.T) {
	for n := range 7 {
		texts := map[string]string{}
		var all []string
		for x := range int(math.Pow(3, float64(n))) {
			b := make([]byte, n)
			for i := range b {
				b[i] = byte('a' + x%3)
				x /= 3
			}
			s := string(b)
			all = append(all, s)
			u, at := Turn(s)
			texts[u+string(rune('0'+at))] = "x" + s
		}
		for _, u := range all {
			for at := range n + 1 {
				s, e := Back(u, at)
				want, f := strings.TrimPrefix(texts[u+string(rune('0'+at))], "x"), api.OK
				switch {
				case at == 0 && n > 0:
					want, f = "", api.ErrRange
				case texts[u+string(rune('0'+at))] == "":
					f = api.ErrForm
				}
				if s != want || e != f {
					t.Fatalf("Back(%q, %d): %q, %d, not %q, %d", u, at, s, e, want, f)
				}
			}
		}
	}
}

func TestBackRefuses(t *testing.T) {
	for _, at := range []int{-1, 0, 4, math.MaxInt, math.MinInt} {
		if s, e := Back("abc", at); s != "" || e != api.ErrRange {
			t.Error(at, s, e)
		}
	}
	if s, e := Back("", 0); s != "" || e != api.OK {
		t.Error(s, e)
	}
	if s, e := Back("", 1); s != "" || e != api.ErrRange {
		t.Error(s, e)
	}
}
