package mtf_test

import (
	"bytes"
	"math"
	"math/rand"
	"slices"
	"testing"

	"gladstone/api"
	. "gladstone/mtf"
)

func TestMove(t *testing.T) {
	if got := Move("aab"); !slices.Equal(got, []int{97, 0, 98}) {
		t.Error(got)
	}
	if got := Move("\xff\x00\xff\x01"); !slices.Equal(got, []int{255, 1, 1, 2}) {
		t.Error(got)
	}
	if len(Move("")) != 0 {
		t.Error("of nothing")
	}
}

func TestRound(t *testing.T) {
	rnd := rand.New(rand.NewSource(1))
	for range 200 {
		b := make([]byte, rnd.Intn(400))
		few := 1 + rnd.Intn(256)
		for i := range b {
			b[i] = byte(rnd.Intn(few))
		}
		l := Move(string(b))
		for i, at := range l { // how many other bytes came since, or, of one that did not come, are ahead of it
			last := bytes.LastIndexByte(b[:i], b[i])
			since := map[byte]bool{}
			for _, x := range b[last+1 : i] {
				since[x] = true
			}
			want := len(since)
			if last < 0 {
				for x := range int(b[i]) {
					if !since[byte(x)] {
						want++
					}
				}
			}
			if at != want {
				t.Fatal(b[:i+1], at, want)
			}
		}
		if s, e := Back(l); s != string(b) || e != api.OK {
			t.Fatal(e)
		}
	}
}

func TestBackRefuses(t *testing.T) {
	for _, x := range []int{-1, 256, math.MaxInt, math.MinInt} {
		if s, e := Back([]int{5, x}); s != "" || e != api.ErrRange {
			t.Error(x, s, e)
		}
	}
	if s, e := Back(nil); s != "" || e != api.OK {
		t.Error(s, e)
	}
	if s, e := Back([]int{255, 255, 0}); s != "\xff\xfe\xfe" || e != api.OK {
		t.Errorf("%q, %d", s, e)
	}
}
