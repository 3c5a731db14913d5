package fast_test

import (
	"math/rand"
	"strings"
	"testing"

	"gladstone/api"
	"gladstone/coded"
	"gladstone/denote"
	. "gladstone/fast"
	"gladstone/greedy"
	"gladstone/window"
)

func TestBlock(t *testing.T) {
	rnd := rand.New(rand.NewSource(1))
	for range 200 {
		b := make([]byte, 1+rnd.Intn(3000))
		few := 1 + rnd.Intn(6)
		for i := range b {
			b[i] = byte('a' + rnd.Intn(few))
		}
		cut := rnd.Intn(len(b))
		hist, block := string(b[:cut]), string(b[cut:])
		size := 1 + rnd.Intn(2000)
		r := api.Reps{rnd.Intn(9), 2, 3, -5}
		l, _ := greedy.Parse(hist, block, r, api.Settings{Way: api.WayLazy, Depth: 16}, size)
		s, _ := coded.Put(l)
		_, want, _ := denote.Apply([]byte(hist), r, l, size)
		w, _ := window.New(size)
		w.Put(hist)
		got, now, e := Block(w, r, s, len(block))
		if got != block || now != want || e != api.OK {
			t.Fatal(e, now, want)
		}
		all := hist + block
		if w.Last(size) != all[len(all)-min(size, len(all)):] {
			t.Fatal("the window")
		}
	}
}

func TestRefuses(t *testing.T) {
	put := func(l ...api.Token) string {
		s, _ := coded.Put(l)
		return s
	}
	a := api.Token{Byte: 97}
	three := func() *window.Window {
		w, _ := window.New(3)
		w.Put("xyz")
		return w
	}
	for k, c := range []struct {
		w   *window.Window
		r   api.Reps
		s   string
		raw int
		e   api.Errno
	}{
		{nil, api.Reps{}, "", 0, api.ErrArg},
		{nil, api.Reps{}, put(a), 1, api.ErrArg},
		{three(), api.Reps{}, "", 0, api.ErrArg},
		{three(), api.Reps{}, put(a), -1, api.ErrArg},
		{three(), api.Reps{}, put(a), 1<<16 + 1, api.ErrArg},
		{three(), api.Reps{}, "", 1, api.ErrShort},
		{three(), api.Reps{}, put(a) + "\x00\x00", 1, api.ErrForm},
		{three(), api.Reps{}, put(a, api.Token{Kind: api.Copy, Len: 2, Dist: 4}), 3, api.ErrToken},
		{three(), api.Reps{}, put(a, api.Token{Kind: api.Repeat, Len: 2}), 3, api.ErrToken},
		{three(), api.Reps{4}, put(a, api.Token{Kind: api.Repeat, Len: 2}), 3, api.ErrToken},
		{three(), api.Reps{1 << 27}, put(a, api.Token{Kind: api.Repeat, Len: 2}), 3, api.ErrToken},
	} {
		if s, r, e := Block(c.w, c.r, c.s, c.raw); s != "" || r != (api.Reps{}) || e != c.e {
			t.Errorf("%d: %q, %v, %d", k, s, r, e)
		}
	}
	if s, r, e := Block(three(), api.Reps{3}, put(a, api.Token{Kind: api.Repeat, Len: 5}), 6); s != "ayzayz" || r != (api.Reps{3}) || e != api.OK {
		t.Error(s, r, e)
	}
	if s, _, e := Block(three(), api.Reps{1}, put(append([]api.Token{a}, many(254)...)...), 1<<16); len(s) != 1<<16 || e != api.OK || strings.Trim(s, "a") != "" {
		t.Error("the greatest block", e, len(s))
	}
}

// many is so many long repeats, and what lacks to 2^16 bytes behind one.
func many(n int) []api.Token {
	var l []api.Token
	for range n {
		l = append(l, api.Token{Kind: api.Repeat, Len: 258})
	}
	return append(l, api.Token{Kind: api.Repeat, Len: 1<<16 - 1 - 258*n})
}
