package block_test

import (
	"math/rand"
	"strings"
	"testing"

	"gladstone/api"
	. "gladstone/block"
	"gladstone/coded"
	"gladstone/denote"
	"gladstone/heads"
	"gladstone/refine"
)

func text(rnd *rand.Rand, n, few int) string {
	b := make([]byte, n)
	for i := range b {
		b[i] = byte('a' + rnd.Intn(few))
	}
	return string(b)
}

func start() api.Reps { return api.Reps{1, 2, 3, 4} }

func TestExample(t *testing.T) {
	for way := range 4 {
		if s, r, e := Encode("xx", "x", start(), api.Settings{Way: way, Depth: 4}, 9); s != "\x01\x00\x00\x00\x00x" || r != start() || e != api.OK {
			t.Errorf("%q, %v, %d", s, r, e)
		}
	}
}

func TestEncode(t *testing.T) {
	rnd := rand.New(rand.NewSource(1))
	stored, short := 0, 0
	for range 250 {
		few := 1 + rnd.Intn(200)
		hist, b := text(rnd, rnd.Intn(300), few), text(rnd, 1+rnd.Intn(600), few)
		r := api.Reps{rnd.Intn(9), -1, 7, 1 << 40}
		s := api.Settings{Way: rnd.Intn(4), Depth: 16, Passes: rnd.Intn(3)}
		window := 1 + rnd.Intn(500)
		got, now, e := Encode(hist, b, r, s, window)
		if e != api.OK || len(got) > len(b)+5 {
			t.Fatal(e, len(got), len(b))
		}
		head, held, e := heads.ReadBlock(got)
		if e != api.OK || head.Raw != len(b) || head.Coded != len(held) {
			t.Fatal(head, e)
		}
		as := s
		if len(b) > 256 && s.Way == api.WayBest {
			as.Way = api.WayLazy
		}
		want, f := "", api.OK
		if s.Way != api.WayStored {
			var l []api.Token
			l, f = refine.Parse(hist, b, r, as, window)
			want, _ = coded.Put(l)
		}
		switch {
		case f != api.OK:
			t.Fatal(f)
		case s.Way == api.WayStored || len(want) >= len(b):
			stored++
			if head.Kind != api.BlockStored || held != b || now != r {
				t.Fatal("not stored", head)
			}
		default:
			short++
			l, _ := coded.Tokens(held, head.Raw)
			all, reps, e := denote.Apply([]byte(hist), r, l, window)
			if head.Kind != api.BlockCoded || held != want || e != api.OK || string(all) != hist+b || reps != now {
				t.Fatal("not coded", head, e)
			}
		}
	}
	if stored < 20 || short < 20 {
		t.Error("too few of a kind", stored, short)
	}
}

// TestBestUpTo256 has blocks at which the best way and the lazy one part.
func TestBestUpTo256(t *testing.T) {
	rnd := rand.New(rand.NewSource(2))
	s := api.Settings{Way: api.WayBest, Depth: 64, Passes: 2}
	lazily := api.Settings{Way: api.WayLazy, Depth: 64}
	others := map[int]int{}
	for range 40 {
		hist, b := text(rnd, 300, 3), text(rnd, 257, 3)
		for _, n := range []int{255, 256, 257} {
			got, _, _ := Encode(hist, b[:n], start(), s, 1000)
			best, _ := refine.Parse(hist, b[:n], start(), s, 1000)
			lazy, _ := refine.Parse(hist, b[:n], start(), lazily, 1000)
			x, _ := coded.Put(best)
			y, _ := coded.Put(lazy)
			if x != y {
				others[n]++
			}
			if n > 256 {
				x = y
			}
			if got[5:] != x {
				t.Fatal(n)
			}
		}
	}
	if others[256] == 0 || others[257] == 0 {
		t.Error("the ways never part")
	}
}

func TestSmallestWindow(t *testing.T) {
	for way := range 4 {
		s, _, e := Encode("a", strings.Repeat("a", 200), start(), api.Settings{Way: way, Depth: 4}, 1)
		if e != api.OK || way > 0 && len(s) > 40 {
			t.Error(way, len(s), e)
		}
	}
}

func TestRefuses(t *testing.T) {
	much := strings.Repeat("x", 1<<26+1)
	for k, c := range []struct {
		hist, block string
		way, window int
	}{{"a", "", 0, 9}, {"a", much[:1<<16+1], 0, 9}, {"a", "b", 0, 0}, {"a", "b", 1, -1}, {"a", "b", 0, 1<<26 + 1}, {much, "b", 0, 9}, {"a", "b", 4, 9}, {"a", "b", -1, 9}} {
		if s, r, e := Encode(c.hist, c.block, start(), api.Settings{Way: c.way, Depth: 4}, c.window); s != "" || r != (api.Reps{}) || e != api.ErrArg {
			t.Error(k, e)
		}
	}
	if s, _, e := Encode(much[1:], much[:1<<16], start(), api.Settings{Way: 1, Depth: 4}, 1<<26); e != api.OK || len(s) > 60 {
		t.Error("as much as may be", len(s), e)
	}
}
