package greedy_test

import (
	"fmt"
	"math/rand"
	"slices"
	"strings"
	"testing"

	"gladstone/api"
	"gladstone/denote"
	. "gladstone/greedy"
	"gladstone/token"
)

func text(rnd *rand.Rand, n, few int) string {
	b := make([]byte, n)
	for i := range b {
		b[i] = byte('a' + rnd.Intn(few))
	}
	return string(b)
}

func ways() []api.Settings {
	return []api.Settings{{Way: api.WayGreedy, Depth: 4}, {Way: api.WayLazy, Depth: 64}, {Way: api.WayLazy, Depth: 1 << 27}, {Way: api.WayGreedy, Depth: -3}}
}

func TestValid(t *testing.T) {
	rnd := rand.New(rand.NewSource(1))
	for k := range 300 {
		few := 1 + rnd.Intn(5)
		hist, block := text(rnd, rnd.Intn(300), few), text(rnd, rnd.Intn(700), few)
		if k%3 == 0 {
			block += hist + block
		}
		window := 1 + rnd.Intn(1<<rnd.Intn(12))
		r := api.Reps{1, 2, 3, 4}
		if k%2 == 0 {
			r = api.Reps{rnd.Intn(20) - 5, rnd.Intn(300), 1 << 40, -1 << 60}
		}
		for _, s := range ways() {
			l, e := Parse(hist, block, r, s, window)
			if e != api.OK || !denote.Valid(hist, r, l, window, block) {
				t.Fatalf("%q, %q, %v, %v, %d: %d", hist, block, r, s, window, e)
			}
			again, _ := Parse(hist, block, r, s, window)
			if !slices.Equal(l, again) {
				t.Fatal("not the same each time")
			}
		}
	}
}

func TestRefuses(t *testing.T) {
	half := strings.Repeat("x", 1<<26)
	for k, c := range []struct {
		hist, block string
		way, window int
	}{{"a", "b", api.WayGreedy, 0}, {"a", "b", api.WayGreedy, -1}, {"a", "b", api.WayLazy, 1<<26 + 1}, {"a", "b", api.WayStored, 9}, {"a", "b", api.WayBest, 9},
		{"a", "b", 4, 9}, {"a", "b", -1, 9}, {half + half, "b", api.WayGreedy, 9}} {
		if l, e := Parse(c.hist, c.block, api.Reps{1, 2, 3, 4}, api.Settings{Way: c.way, Depth: 4}, c.window); e != api.ErrArg || l != nil {
			t.Error(k, e)
		}
	}
	for _, s := range ways() {
		if l, e := Parse((half + half)[10:], "xxxxxxxxxx", api.Reps{}, s, 1<<26); e != api.OK || len(l) != 1 {
			t.Error("as many bytes as may be", l, e)
		}
		if l, e := Parse("abc", "", api.Reps{}, s, 1); e != api.OK || len(l) != 0 {
			t.Error("no bytes", l, e)
		}
	}
}

func TestEqualBytes(t *testing.T) {
	rnd := rand.New(rand.NewSource(2))
	for _, s := range ways() {
		for n := 3; n <= 258; n++ {
			for range 12 {
				hist := ""
				for range rnd.Intn(9) {
					hist += strings.Repeat(string(rune('a'+rnd.Intn(2))), rnd.Intn(1<<rnd.Intn(9)))
				}
				r := api.Reps{rnd.Intn(300), rnd.Intn(9), rnd.Intn(30), rnd.Intn(90)}
				window := 1 + rnd.Intn(600)
				block := strings.Repeat("a", n)
				l, e := Parse(hist, block, r, s, window)
				if e != api.OK || len(l) > 2 || !denote.Valid(hist, r, l, window, block) {
					t.Fatalf("%q and %d, %v, %d: %v", hist, n, r, window, l)
				}
			}
		}
	}
	if l, _ := Parse("", "aaaa", api.Reps{1, 2, 3, 4}, ways()[0], 9); len(l) != 2 {
		t.Error(l)
	}
}

func TestFindsFarSources(t *testing.T) {
	rnd := rand.New(rand.NewSource(3))
	hist := text(rnd, 3_000_000, 26)
	for _, from := range []int{0, 1 << 20, 2_950_000} {
		block := hist[from : from+3000]
		for _, s := range ways() {
			l, e := Parse(hist, block, api.Reps{1, 2, 3, 4}, s, 1<<22)
			if e != api.OK || !denote.Valid(hist, api.Reps{1, 2, 3, 4}, l, 1<<22, block) || len(l) > 20 {
				t.Errorf("from %d: %d tokens, %d", from, len(l), e)
			}
			l, e = Parse(hist, block, api.Reps{1, 2, 3, 4}, s, 1000)
			if e != api.OK || !denote.Valid(hist, api.Reps{1, 2, 3, 4}, l, 1000, block) {
				t.Errorf("from %d, a small window: %d", from, e)
			}
		}
	}
}

func TestLazyIsNoLonger(t *testing.T) {
	words := []string{"the ", "codec ", "window ", "large ", "a ", "frame ", "of ", "and ", "block ", "blocks ", "symbol "}
	rnd := rand.New(rand.NewSource(4))
	var b strings.Builder
	for b.Len() < 50000 {
		fmt.Fprint(&b, words[rnd.Intn(len(words))])
	}
	copies := func(s api.Settings) int {
		l, _ := Parse("", b.String(), api.Reps{1, 2, 3, 4}, s, 1<<15)
		for _, t := range l {
			if token.Check(t) != api.OK {
				return 1 << 30
			}
		}
		return len(l)
	}
	g, l := copies(api.Settings{Way: api.WayGreedy, Depth: 4}), copies(api.Settings{Way: api.WayLazy, Depth: 256})
	if g > 12000 || l > g {
		t.Errorf("%d tokens, %d lazily", g, l)
	}
}
