package token_test

import (
	"testing"

	"gladstone/api"
	"gladstone/slots"
	. "gladstone/token"
)

func TestCheckAndSize(t *testing.T) {
	for _, c := range []struct {
		t    api.Token
		size int
	}{
		{api.Token{}, 1}, {api.Token{Byte: 255}, 1},
		{api.Token{Kind: api.Copy, Len: 2, Dist: 1}, 2}, {api.Token{Kind: api.Copy, Len: 258, Dist: 1 << 26}, 258},
		{api.Token{Kind: api.Repeat, Len: 2}, 2}, {api.Token{Kind: api.Repeat, Len: 258, Rep: 3}, 258},
		{api.Token{Byte: -1}, 0}, {api.Token{Byte: 256}, 0}, {api.Token{Len: 1}, 0}, {api.Token{Dist: 1}, 0}, {api.Token{Rep: 1}, 0},
		{api.Token{Kind: api.Copy, Len: 1, Dist: 1}, 0}, {api.Token{Kind: api.Copy, Len: 259, Dist: 1}, 0},
		{api.Token{Kind: api.Copy, Len: 2}, 0}, {api.Token{Kind: api.Copy, Len: 2, Dist: 1<<26 + 1}, 0},
		{api.Token{Kind: api.Copy, Len: 2, Dist: -1}, 0},
		{api.Token{Kind: api.Copy, Len: 2, Dist: 1, Byte: 1}, 0}, {api.Token{Kind: api.Copy, Len: 2, Dist: 1, Rep: 1}, 0},
		{api.Token{Kind: api.Repeat, Len: 1}, 0}, {api.Token{Kind: api.Repeat, Len: 259}, 0},
		{api.Token{Kind: api.Repeat, Len: 2, Rep: 4}, 0}, {api.Token{Kind: api.Repeat, Len: 2, Rep: -1}, 0},
		{api.Token{Kind: api.Repeat, Len: 2, Dist: 1}, 0}, {api.Token{Kind: api.Repeat, Len: 2, Byte: 1}, 0},
		{api.Token{Kind: 3}, 0}, {api.Token{Kind: -1}, 0}, {api.Token{Kind: 3, Len: 2, Dist: 1}, 0},
	} {
		want := api.OK
		if c.size == 0 {
			want = api.ErrToken
		}
		if e := Check(c.t); e != want || Size(c.t) != c.size {
			t.Errorf("%v: %d, %d", c.t, e, Size(c.t))
		}
		if sym, e := Sym(c.t); e != want || e != api.OK && sym != 0 {
			t.Errorf("Sym(%v): %d, %d", c.t, sym, e)
		}
	}
}

func TestSym(t *testing.T) {
	for b := range 256 {
		if sym, _ := Sym(api.Token{Byte: b}); sym != b {
			t.Error(b, sym)
		}
	}
	for n := 2; n <= 258; n++ {
		slot, _, _, _ := slots.Len(n)
		if sym, _ := Sym(api.Token{Kind: api.Copy, Len: n, Dist: 7}); sym != 256+slot {
			t.Error("copy", n, sym)
		}
		for rep := range 4 {
			if sym, _ := Sym(api.Token{Kind: api.Repeat, Len: n, Rep: rep}); sym != 285+29*rep+slot {
				t.Error("repeat", n, rep, sym)
			}
		}
	}
	if sym, _ := Sym(api.Token{Kind: api.Repeat, Len: 2, Rep: 1}); sym != 314 {
		t.Error("the example", sym)
	}
}

func TestOf(t *testing.T) {
	for sym := range 401 {
		kind, b, rep, slot, e := Of(sym)
		tok := api.Token{Kind: kind, Byte: b, Rep: rep}
		if kind != api.Literal {
			tok.Len, _ = slots.LenOf(slot, 0)
		} else if slot != 0 {
			t.Error("a literal's slot")
		}
		if kind == api.Copy {
			tok.Dist = 1
		}
		if back, f := Sym(tok); back != sym || e != api.OK || f != api.OK {
			t.Error(sym, tok, back)
		}
	}
	for _, sym := range []int{-1, 401, 1 << 60, -1 << 60} {
		if k, b, r, s, e := Of(sym); k != 0 || b != 0 || r != 0 || s != 0 || e != api.ErrRange {
			t.Error(sym, e)
		}
	}
}
