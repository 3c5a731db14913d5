package refine_test

import (
	"math/rand"
	"slices"
	"strings"
	"testing"

	"gladstone/api"
	"gladstone/best"
	"gladstone/coded"
	"gladstone/count"
	"gladstone/denote"
	"gladstone/greedy"
	"gladstone/price"
	. "gladstone/refine"
	"gladstone/weight"
)

func text(rnd *rand.Rand, n, few int) string {
	b := make([]byte, n)
	for i := range b {
		b[i] = byte('a' + rnd.Intn(few))
	}
	return string(b)
}

func start() api.Reps { return api.Reps{1, 2, 3, 4} }

func TestAsGreedy(t *testing.T) {
	rnd := rand.New(rand.NewSource(1))
	for range 50 {
		hist, block := text(rnd, rnd.Intn(100), 3), text(rnd, rnd.Intn(100), 3)
		for _, s := range []api.Settings{{Way: api.WayGreedy, Depth: 4, Passes: 3}, {Way: api.WayLazy, Depth: 16}} {
			want, _ := greedy.Parse(hist, block, start(), s, 99)
			if l, e := Parse(hist, block, start(), s, 99); e != api.OK || !slices.Equal(l, want) {
				t.Fatal(s, e)
			}
		}
	}
}

// byHand is what the chapter says of the best way, step by step.
func byHand(hist, block string, passes, window int) []api.Token {
	p := price.Flat(9, 6)
	parse := func() []api.Token {
		if len(block) > 16 || len(hist) > 48 {
			l, _, _ := best.Quick(hist, block, start(), p, window)
			return l
		}
		l, _, _ := best.Parse(hist, block, start(), p, window)
		return l
	}
	all := [][]api.Token{parse()}
	for range passes {
		main, dist, _ := count.Tables(all[len(all)-1])
		now := count.Prices(main, dist)
		p.Main, _ = weight.Mix(p.Main, now.Main, 0.75)
		p.Dist, _ = weight.Mix(p.Dist, now.Dist, 0.75)
		all = append(all, parse())
	}
	out := all[0]
	for _, l := range all {
		if coded.Size(l) < coded.Size(out) {
			out = l
		}
	}
	return out
}

func TestBest(t *testing.T) {
	rnd := rand.New(rand.NewSource(2))
	for range 60 {
		few := 1 + rnd.Intn(4)
		for _, n := range [][2]int{{48, 16}, {49, 16}, {48, 17}, {3, 5}, {0, 0}, {100, 100}} {
			hist, block := text(rnd, n[0], few), text(rnd, n[1], few)
			for passes, want := range map[int]int{-7: 0, 0: 0, 1: 1, 2: 2, 3: 3, 99: 3} {
				l, e := Parse(hist, block, start(), api.Settings{Way: api.WayBest, Passes: passes}, 60)
				if e != api.OK || !slices.Equal(l, byHand(hist, block, want, 60)) || !denote.Valid(hist, start(), l, 60, block) {
					t.Fatalf("%q, %q, %d: %d", hist, block, passes, e)
				}
			}
		}
	}
}

func TestRefuses(t *testing.T) {
	half := strings.Repeat("x", 1<<26)
	for _, way := range []int{api.WayGreedy, api.WayLazy, api.WayBest} {
		s := api.Settings{Way: way, Depth: 4, Passes: 1}
		for _, window := range []int{0, -1, 1<<26 + 1} {
			if l, e := Parse("a", "b", start(), s, window); e != api.ErrArg || l != nil {
				t.Error(way, window, e)
			}
		}
		if l, e := Parse(half+half, "b", start(), s, 9); e != api.ErrArg || l != nil {
			t.Error(way, "too many bytes", e)
		}
	}
	for _, way := range []int{api.WayStored, 4, -1} {
		if l, e := Parse("a", "b", start(), api.Settings{Way: way}, 9); e != api.ErrArg || l != nil {
			t.Error(way, e)
		}
	}
}
