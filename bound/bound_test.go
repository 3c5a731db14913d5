package bound_test

import (
	"math"
	"math/rand"
	"testing"

	"gladstone/api"
	. "gladstone/bound"
	"gladstone/deflow"
)

func TestBlocks(t *testing.T) {
	for n, want := range map[int]int{0: 0, -1: 0, math.MinInt: 0, 1: 1, 1 << 16: 1, 1<<16 + 1: 2, 1 << 17: 2, math.MaxInt: 1 << 47} {
		if Blocks(n) != want {
			t.Error(n, Blocks(n))
		}
	}
}

func TestFrame(t *testing.T) {
	if Head() != 32 {
		t.Error(Head())
	}
	for _, c := range [][3]int{{1, 0, 38}, {0, 0, 32}, {-5, -5, 32}, {0, 3, 47}, {1<<16 + 1, 2, 1<<16 + 1 + 20 + 32}, {math.MinInt, 1, 37},
		{math.MaxInt, 0, 1<<60 + 5<<44 + 32}, {1 << 60, 0, 1<<60 + 5<<44 + 32}, {0, math.MaxInt, 5<<60 + 32}, {math.MaxInt, math.MaxInt, 6<<60 + 5<<44 + 32}} {
		if got := Frame(c[0], c[1]); got != c[2] {
			t.Error(c, got)
		}
	}
}

func TestNeverLonger(t *testing.T) {
	rnd := rand.New(rand.NewSource(1))
	for level := range 10 {
		for k := range 5 {
			p := api.Params{Level: level, Log: 15}
			if k > 2 {
				p.Dict = "dictionary"
			}
			w, _ := deflow.New(p)
			n, flushes, told := 0, 0, 0
			for range rnd.Intn(30) {
				b := make([]byte, rnd.Intn(1<<rnd.Intn(14)))
				rnd.Read(b)
				s, _ := w.Write(string(b))
				n, told = n+len(b), told+len(s)
				if rnd.Intn(3) > 0 {
					s, _ = w.Flush()
					flushes, told = flushes+1, told+len(s)
				}
			}
			s, _ := w.Finish()
			if told += len(s); told > Frame(n, flushes) {
				t.Error(level, n, flushes, told)
			}
		}
	}
}
