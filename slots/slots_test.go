package slots_test

import (
	"math"
	"testing"

	"gladstone/api"
	. "gladstone/slots"
)

// rows is the first number of each slot, and its extra bits, laid one behind the other.
func rows(least, sole, many, extras int) (firsts, extra []int) {
	next := least
	for range sole {
		firsts, extra = append(firsts, next), append(extra, 0)
		next++
	}
	for x := 1; x <= extras; x++ {
		for range many {
			firsts, extra = append(firsts, next), append(extra, x)
			next += 1 << x
		}
	}
	return append(firsts, next), extra
}

func TestLen(t *testing.T) {
	firsts, extra := rows(2, 8, 4, 5)
	if len(extra) != 28 || firsts[28] != 258 {
		t.Fatal("the table of the test")
	}
	extra = append(extra, 0)
	slot := 0
	for n := 2; n <= 258; n++ {
		if slot < 28 && n == firsts[slot+1] {
			slot++
		}
		s, x, more, e := Len(n)
		if s != slot || x != extra[slot] || more != n-firsts[slot] || e != api.OK {
			t.Errorf("Len(%d): %d, %d, %d", n, s, x, more)
		}
		if back, e := LenOf(s, more); back != n || e != api.OK {
			t.Errorf("LenOf(%d, %d): %d", s, more, back)
		}
	}
	for s, x := range extra {
		for _, more := range []int{-1, 1 << x, math.MaxInt, math.MinInt} {
			if n, e := LenOf(s, more); n != 0 || e != api.ErrRange {
				t.Errorf("LenOf(%d, %d): %d, %d", s, more, n, e)
			}
		}
	}
	if s, x, m, _ := Len(11); s != 8 || x != 1 || m != 1 {
		t.Error("the example")
	}
}

func TestDist(t *testing.T) {
	firsts, extra := rows(1, 4, 2, 24)
	if len(extra) != 52 || firsts[52] != 1<<26+1 {
		t.Fatal("the table of the test")
	}
	for slot, first := range firsts[:52] {
		for _, d := range []int{first, first + 1, (first + firsts[slot+1]) / 2, firsts[slot+1] - 1} {
			if d >= firsts[slot+1] {
				continue
			}
			s, x, more, e := Dist(d)
			if s != slot || x != extra[slot] || more != d-first || e != api.OK {
				t.Errorf("Dist(%d): %d, %d, %d", d, s, x, more)
			}
			if back, e := DistOf(s, more); back != d || e != api.OK {
				t.Errorf("DistOf(%d, %d): %d", s, more, back)
			}
		}
		for _, more := range []int{-1, 1 << extra[slot], math.MaxInt} {
			if d, e := DistOf(slot, more); d != 0 || e != api.ErrRange {
				t.Errorf("DistOf(%d, %d): %d, %d", slot, more, d, e)
			}
		}
	}
	if s, x, m, _ := Dist(10); s != 6 || x != 2 || m != 1 {
		t.Error("the example")
	}
}

func TestRefuses(t *testing.T) {
	for _, n := range []int{1, 0, -1, 259, math.MaxInt, math.MinInt} {
		if s, x, m, e := Len(n); s != 0 || x != 0 || m != 0 || e != api.ErrRange {
			t.Error("Len", n)
		}
	}
	for _, d := range []int{0, -1, 1<<26 + 1, math.MaxInt, math.MinInt} {
		if s, x, m, e := Dist(d); s != 0 || x != 0 || m != 0 || e != api.ErrRange {
			t.Error("Dist", d)
		}
	}
	for _, s := range []int{-1, 52, math.MaxInt, math.MinInt} {
		if d, e := DistOf(s, 0); d != 0 || e != api.ErrRange {
			t.Error("DistOf", s)
		}
	}
	for _, s := range []int{-1, 29, math.MaxInt, math.MinInt} {
		if n, e := LenOf(s, 0); n != 0 || e != api.ErrRange {
			t.Error("LenOf", s)
		}
	}
}
