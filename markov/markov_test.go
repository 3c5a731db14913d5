package markov_test

import (
	"math"
	"math/rand"
	"strings"
	"testing"

	"gladstone/api"
	. "gladstone/markov"
	"gladstone/prob"
	"gladstone/ranger"
)

// slow keeps the bits of each row, and works the chances out anew.
func slow(s string) string {
	type row struct {
		ahead byte
		n     int
		bits  int
	}
	seen := map[row][]bool{}
	var bits []bool
	var probs []int
	ahead := byte(0)
	for i := range len(s) {
		for k := 7; k >= 0; k-- {
			r, bit := row{ahead, k, int(s[i]) >> (k + 1)}, s[i]>>k&1 == 1
			seen[r] = append(seen[r], bit)
			of := prob.Of(seen[r])
			bits, probs = append(bits, bit), append(probs, of[len(of)-1])
		}
		ahead = s[i]
	}
	out, _ := ranger.Encode(bits, probs)
	return out
}

func TestRound(t *testing.T) {
	rnd := rand.New(rand.NewSource(1))
	for range 100 {
		b := make([]byte, rnd.Intn(1<<rnd.Intn(11)))
		few := 1 + rnd.Intn(256)
		for i := range b {
			b[i] = byte(rnd.Intn(few))
		}
		s, e := Encode(string(b))
		if s != slow(string(b)) || Size(string(b)) != len(s) || e != api.OK {
			t.Fatal(e)
		}
		if got, e := Decode(s, len(b)); got != string(b) || e != api.OK {
			t.Fatal(e)
		}
	}
	long := strings.Repeat("gladstone ", 20000)
	s, e := Encode(long)
	if got, f := Decode(s, len(long)); got != long || e != api.OK || f != api.OK || len(s) > 20000 {
		t.Error(len(s), e, f)
	}
}

func TestMostBytes(t *testing.T) {
	if testing.Short() {
		t.Skip("millions of bits are held")
	}
	much := strings.Repeat("x", 1<<24)
	s, e := Encode(much)
	if got, f := Decode(s, 1<<24); got != much || e != api.OK || f != api.OK {
		t.Error(len(got), e, f)
	}
}

func TestEdges(t *testing.T) {
	if s, e := Encode(""); s != "" || e != api.OK || Size("") != 0 {
		t.Error(s, e)
	}
	if s, e := Decode("abc", 0); s != "" || e != api.OK {
		t.Error(s, e)
	}
	if s, e := Decode("", 5); s != "\x00\x00\x00\x00\x00" || e != api.OK {
		t.Errorf("%q, %d", s, e)
	}
	much := strings.Repeat("x", 1<<24+1)
	if s, e := Encode(much); s != "" || e != api.ErrLimit || Size(much) != 0 {
		t.Error(e)
	}
	for _, many := range []int{-1, 1<<24 + 1, math.MinInt, math.MaxInt} {
		if s, e := Decode("abc", many); s != "" || e != api.ErrArg {
			t.Error(many, e)
		}
	}
}
