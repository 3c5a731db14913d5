package delta_test

import (
	"math"
	"math/rand"
	"strings"
	"testing"

	"gladstone/api"
	. "gladstone/delta"
)

func TestApply(t *testing.T) {
	for _, c := range []struct {
		s    string
		d    int
		want string
	}{{"\x01\x02\x03\x04", 1, "\x01\x01\x01\x01"}, {"\x05\x01\x00", 1, "\x05\xfc\xff"}, {"abcabd", 3, "abc\x00\x00\x01"}, {"ab", 256, "ab"}, {"", 1, ""}} {
		if s, e := Apply(c.s, c.d); s != c.want || e != api.OK {
			t.Errorf("%q, %d", s, e)
		}
		if s, e := Back(c.want, c.d); s != c.s || e != api.OK {
			t.Errorf("%q, %d", s, e)
		}
	}
	for _, d := range []int{0, -1, 257, math.MaxInt, math.MinInt} {
		if s, e := Apply("abc", d); s != "" || e != api.ErrArg {
			t.Error(d, e)
		}
		if s, e := Back("abc", d); s != "" || e != api.ErrArg {
			t.Error(d, e)
		}
	}
}

func TestRoundAndBest(t *testing.T) {
	rnd := rand.New(rand.NewSource(1))
	for range 200 {
		b := make([]byte, rnd.Intn(700))
		few := 1 + rnd.Intn(4)
		for i := range b {
			b[i] = byte(rnd.Intn(few) * 80)
		}
		s := string(b)
		most := rnd.Intn(300) - 10
		best, left := 0, strings.Count(s, "\x00")
		for d := 1; d <= min(most, 256); d++ {
			x, _ := Apply(s, d)
			if y, e := Back(x, d); y != s || e != api.OK {
				t.Fatal(d, e)
			}
			if n := strings.Count(x, "\x00"); n > left {
				best, left = d, n
			}
		}
		if got := Best(s, most); got != best {
			t.Fatal(most, got, best)
		}
	}
	b := make([]byte, 256)
	rnd.Read(b)
	row := strings.Repeat(string(b), 9)
	if Best(row, math.MaxInt) != 256 || Best(row, math.MinInt) != 0 || Best(row, 255) == 256 || Best("", 9) != 0 || Best("aaaa", 9) != 1 {
		t.Error("the edges", Best(row, math.MaxInt))
	}
}
