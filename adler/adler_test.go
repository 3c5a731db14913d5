package adler_test

import (
	"hash/adler32"
	"math"
	"strings"
	"testing"

	. "gladstone/adler"
)

func texts() []string {
	return []string{"", "a", "abc", "message digest", strings.Repeat("\xff", 70000), strings.Repeat("\x00", 65521), strings.Repeat("gladstone", 999)}
}

func TestSum(t *testing.T) {
	if Sum("") != 1 || Sum("a") != 6422626 {
		t.Error(Sum(""), Sum("a"))
	}
	for _, s := range texts() {
		if Sum(s) != adler32.Checksum([]byte(s)) {
			t.Errorf("of %d bytes", len(s))
		}
	}
}

func TestAddAndJoin(t *testing.T) {
	for _, s := range texts() {
		for _, u := range texts() {
			want := Sum(s + u)
			if Add(Sum(s), u) != want {
				t.Errorf("Add of %d and %d bytes", len(s), len(u))
			}
			if Join(Sum(s), Sum(u), len(u)) != want {
				t.Errorf("Join of %d and %d bytes", len(s), len(u))
			}
		}
	}
}

func TestHalvesPastThePrime(t *testing.T) {
	if Add(math.MaxUint32, "") != 14*65536+14 || Add(65521, "") != 0 {
		t.Error("halves are not taken modulo 65521")
	}
	x, y := Join(math.MaxUint32, math.MaxUint32, 3), Join(14*65536+14, 14*65536+14, 3)
	if x != y || x != (14+14+3*13)*65536+27 {
		t.Error(x, y)
	}
	if Join(0, 0, 1) != 65520*65536+65520 {
		t.Error("a sum that no row has")
	}
}

func TestJoinNumbers(t *testing.T) {
	a, b := Sum("ab"), Sum("cd")
	if Join(a, b, -5) != Join(a, b, 0) || Join(a, b, math.MinInt) != Join(a, b, 0) {
		t.Error("below 0")
	}
	if Join(a, b, math.MaxInt) != Join(a, b, math.MaxInt%65521) {
		t.Error("great numbers")
	}
}
