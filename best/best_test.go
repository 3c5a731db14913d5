package best_test

import (
	"math/rand"
	"slices"
	"strings"
	"testing"

	"gladstone/api"
	. "gladstone/best"
	"gladstone/denote"
	"gladstone/price"
	"gladstone/reps"
	"gladstone/token"
)

func text(rnd *rand.Rand, n, few int) string {
	b := make([]byte, n)
	for i := range b {
		b[i] = byte('a' + rnd.Intn(few))
	}
	return string(b)
}

func chances(rnd *rand.Rand, most int) api.Prices {
	p := price.Flat(1, 1)
	for i := range p.Main {
		p.Main[i] = 1 + rnd.Intn(most)
	}
	for i := range p.Dist {
		p.Dist[i] = 1 + rnd.Intn(most)
	}
	return p
}

type key struct {
	i int
	r api.Reps
}

// least tries all tokens, one by one.
func least(text string, i int, r api.Reps, p api.Prices, window int, known map[key]int) int {
	if i == len(text) {
		return 0
	}
	if c, ok := known[key{i, r}]; ok {
		return c
	}
	best := 1 << 60
	try := func(t api.Token) {
		now, d, e := reps.Use(r, t)
		if e != api.OK {
			return
		}
		for n := range t.Len {
			if d > window || d > i || i+n >= len(text) || text[i+n] != text[i+n-d] {
				return
			}
		}
		cost, _ := price.Token(p, t)
		best = min(best, cost+least(text, i+token.Size(t), now, p, window, known))
	}
	try(api.Token{Byte: int(text[i])})
	for n := 2; i+n <= len(text); n++ {
		for rep := range 4 {
			try(api.Token{Kind: api.Repeat, Len: n, Rep: rep})
		}
		for d := 1; d <= i; d++ {
			try(api.Token{Kind: api.Copy, Len: n, Dist: d})
		}
	}
	known[key{i, r}] = best
	return best
}

func check26(t *testing.T, hist, block string, r api.Reps, p api.Prices, window int) int {
	t.Helper()
	l, cost, e := Parse(hist, block, r, p, window)
	if e != api.OK || !denote.Valid(hist, r, l, window, block) {
		t.Fatalf("%q, %q, %v, %d: %d, %v", hist, block, r, window, e, l)
	}
	if all, _ := price.All(p, l); all != cost {
		t.Fatalf("%q, %q: costs %d, not %d", hist, block, all, cost)
	}
	q, quick, e := Quick(hist, block, r, p, window)
	all, _ := price.All(p, q)
	literals := 0
	for i := range len(block) {
		literals += p.Main[block[i]]
	}
	if e != api.OK || !denote.Valid(hist, r, q, window, block) || all != quick || quick > literals || quick < cost {
		t.Fatalf("Quick of %q, %q: %d of %d, %d literals, %d best, %d", hist, block, quick, all, literals, cost, e)
	}
	again, _, _ := Parse(hist, block, r, p, window)
	if !slices.Equal(l, again) {
		t.Fatal("not the same each time")
	}
	return cost
}

func TestNoneCostLess(t *testing.T) {
	rnd := rand.New(rand.NewSource(1))
	for k := range 1000 {
		few := 1 + rnd.Intn(3)
		hist, block := text(rnd, rnd.Intn(7), few), text(rnd, rnd.Intn(12), few)
		if k%4 == 0 { // bytes that are runes together
			swap := strings.NewReplacer("a", "\xc3", "b", "\xa9", "c", "\xe2")
			hist, block = swap.Replace(hist), swap.Replace(block)
		}
		p := price.Flat(1+rnd.Intn(9), 1+rnd.Intn(6))
		if k%2 == 0 {
			p = chances(rnd, 1+rnd.Intn(20))
		}
		r := api.Reps{1, 2, 3, 4}
		if k%3 == 0 {
			r = api.Reps{rnd.Intn(12) - 1, rnd.Intn(5), 1 << 50, rnd.Intn(5)}
		}
		window := 1 + rnd.Intn(20)
		cost := check26(t, hist, block, r, p, window)
		if want := least(hist+block, len(hist), r, p, window, map[key]int{}); cost != want {
			t.Fatalf("%q, %q, %v, %d: %d, not %d", hist, block, r, window, cost, want)
		}
	}
}

func TestManyWays(t *testing.T) {
	rnd := rand.New(rand.NewSource(2))
	for _, few := range []int{1, 2, 3, 4, 26} {
		hist := text(rnd, 48, few)
		for _, n := range []int{16, 24} {
			check26(t, hist, text(rnd, n, few), api.Reps{1, 2, 3, 4}, price.Flat(9, 6), 1<<15)
			check26(t, hist, text(rnd, n, few), api.Reps{5, 6, 7, 8}, chances(rnd, 16), 1<<15)
		}
		check26(t, "", strings.Repeat(text(rnd, few, few), 300), api.Reps{1, 2, 3, 4}, price.Flat(1, 1), 1<<15)
	}
	check26(t, "", strings.Repeat("a", 1<<16), api.Reps{1, 2, 3, 4}, price.Flat(9, 6), 1<<15)
	check26(t, "", text(rnd, 1<<12, 250), api.Reps{1, 2, 3, 4}, price.Flat(9, 6), 1<<15)
}

func TestExample(t *testing.T) {
	l, cost, e := Parse("", "aaaa", api.Reps{1, 2, 3, 4}, price.Flat(1, 1), 9)
	if e != api.OK || cost != 2 || len(l) != 2 || l[1].Kind != api.Repeat {
		t.Error(l, cost, e)
	}
}

func TestRefuses(t *testing.T) {
	half := strings.Repeat("x", 1<<26)
	flat, r := price.Flat(9, 6), api.Reps{1, 2, 3, 4}
	wrong := price.Flat(9, 6)
	wrong.Main[0] = 0
	for k, c := range []struct {
		hist, block string
		p           api.Prices
		window      int
		e           api.Errno
	}{{"a", "b", api.Prices{}, 0, api.ErrArg}, {"a", "b", flat, -1, api.ErrArg}, {"a", "b", flat, 1<<26 + 1, api.ErrArg}, {"", half[:1<<16+1], flat, 9, api.ErrArg},
		{half + half, "b", flat, 9, api.ErrArg}, {"a", "b", api.Prices{}, 9, api.ErrForm}, {"a", "b", wrong, 9, api.ErrRange}} {
		if l, cost, e := Parse(c.hist, c.block, r, c.p, c.window); l != nil || cost != 0 || e != c.e {
			t.Error("Parse", k, e)
		}
		if l, cost, e := Quick(c.hist, c.block, r, c.p, c.window); l != nil || cost != 0 || e != c.e {
			t.Error("Quick", k, e)
		}
	}
	for _, block := range []string{"b", "xxxxxxxxxx"} {
		hist := (half + half)[len(block):]
		l, cost, e := Parse(hist, block, r, flat, 1<<26)
		q, quick, f := Quick(hist, block, r, flat, 1<<26)
		if len(l) != 1 || len(q) != 1 || cost != 9+len(block)/10 || quick != cost || e != api.OK || f != api.OK {
			t.Error("as many bytes as may be", l, cost, e, q, quick, f)
		}
	}
	if l, cost, e := Parse("abc", "", r, flat, 9); len(l) != 0 || cost != 0 || e != api.OK {
		t.Error("no bytes", l, cost, e)
	}
}

func TestQuickOfMany(t *testing.T) {
	rnd := rand.New(rand.NewSource(3))
	p, r := price.Flat(9, 6), api.Reps{1, 2, 3, 4}
	for _, block := range []string{strings.Repeat("a", 1<<16), strings.Repeat("ab", 1<<15), text(rnd, 1<<16, 2), text(rnd, 1<<16, 26)} {
		hist := block[:1<<15] + text(rnd, 1<<17, 26)
		l, cost, e := Quick(hist, block, r, p, 1<<20)
		if all, _ := price.All(p, l); e != api.OK || all != cost || cost > 9<<16 || !denote.Valid(hist, r, l, 1<<20, block) {
			t.Error(len(l), cost, e)
		}
	}
}
