package frame_test

import (
	"math"
	"math/rand"
	"slices"
	"strings"
	"testing"

	"gladstone/adler"
	"gladstone/api"
	"gladstone/block"
	"gladstone/crc"
	. "gladstone/frame"
	"gladstone/heads"
	"gladstone/level"
)

func TestParts(t *testing.T) {
	for _, c := range []struct {
		n    int
		want []int
	}{{0, nil}, {-1, nil}, {math.MinInt, nil}, {1, []int{1}}, {1 << 16, []int{1 << 16}}, {1<<16 + 1, []int{1 << 16, 1}}, {3<<16 - 1, []int{1 << 16, 1 << 16, 1<<16 - 1}}} {
		if got := Parts(c.n); !slices.Equal(got, c.want) {
			t.Error(c.n, got)
		}
	}
}

func TestOfNothing(t *testing.T) {
	for level := range 10 {
		if s, e := Compress("", api.Params{Level: level, Log: 15}); s != "GLD1\x0f\x00\x00\x00\x00\x00" || e != api.OK {
			t.Errorf("%q, %d", s, e)
		}
	}
	s, e := Compress("", api.Params{Log: 16, Dict: "a"})
	if s != "GLD1\x30\x62\x00\x62\x00\x00\x00\x00\x00\x00" || e != api.OK {
		t.Errorf("%q, %d", s, e)
	}
}

func text(rnd *rand.Rand, n int) string {
	var b strings.Builder
	for b.Len() < n {
		b.WriteString([]string{"the ", "codec ", "window ", "frames ", "xyzzy"}[rnd.Intn(5)])
		b.WriteByte(byte(rnd.Intn(40)))
	}
	return b.String()[:n]
}

// TestByHand lays the parts together as the chapter says.
func TestByHand(t *testing.T) {
	rnd := rand.New(rand.NewSource(1))
	for lev := range 10 {
		dict, data := text(rnd, 1000*(lev%3)), text(rnd, 140000)
		p := api.Params{Level: lev, Log: 15 + lev%4, Dict: dict}
		h, _ := level.Head(p)
		want, _ := heads.Put(h)
		s, _ := level.Of(lev)
		r := api.Reps{1, 2, 3, 4}
		all := dict + data
		for at := len(dict); at < len(all); at += 1 << 16 {
			told, now, e := block.Encode(all[max(0, at-1<<p.Log):at], all[at:min(at+1<<16, len(all))], r, s, 1<<p.Log)
			if e != api.OK {
				t.Fatal(e)
			}
			want, r = want+told, now
		}
		sum := crc.Sum(data)
		want += "\x00" + string([]byte{byte(sum), byte(sum >> 8), byte(sum >> 16), byte(sum >> 24)})
		if got, e := Compress(data, p); got != want || e != api.OK {
			t.Error(lev, e, len(got), len(want))
		}
		if dict != "" && h.DictID != adler.Sum(dict) {
			t.Error("the dictionary's sum")
		}
	}
}

func TestRefuses(t *testing.T) {
	for _, c := range []struct {
		p api.Params
		e api.Errno
	}{{api.Params{Level: 10, Log: 1}, api.ErrRange}, {api.Params{Level: -1, Log: 15}, api.ErrRange}, {api.Params{Log: 14}, api.ErrWindow}, {api.Params{Log: 27}, api.ErrWindow},
		{api.Params{Log: 15, Dict: strings.Repeat("d", 1<<15+1)}, api.ErrDict}} {
		if s, e := Compress("abc", c.p); s != "" || e != c.e {
			t.Error(c.p.Level, c.p.Log, e)
		}
	}
}
