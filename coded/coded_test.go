package coded_test

import (
	"math/rand"
	"slices"
	"testing"

	"gladstone/api"
	"gladstone/bitw"
	. "gladstone/coded"
	"gladstone/count"
	"gladstone/lens"
	"gladstone/slow"
	"gladstone/token"
)

func random(rnd *rand.Rand, n int) ([]api.Token, int) {
	var l []api.Token
	raw := 0
	copies := rnd.Intn(3) > 0
	for range n {
		t := api.Token{Byte: rnd.Intn(1 << rnd.Intn(9))}
		switch k := rnd.Intn(4); {
		case k == 2 && copies:
			t = api.Token{Kind: api.Copy, Len: 2 + rnd.Intn(257), Dist: 1 + rnd.Intn(1<<rnd.Intn(27))}
		case k == 3:
			t = api.Token{Kind: api.Repeat, Len: 2 + rnd.Intn(257), Rep: rnd.Intn(4)}
		}
		l = append(l, t)
		raw += token.Size(t)
	}
	return l, raw
}

func TestRound(t *testing.T) {
	rnd := rand.New(rand.NewSource(1))
	for range 300 {
		l, raw := random(rnd, 1+rnd.Intn(200))
		s, e := Put(l)
		if e != api.OK || (Size(l)+7)/8 != len(s) {
			t.Fatal(e, Size(l), len(s))
		}
		got, e := Tokens(s, raw)
		if e != api.OK || !slices.Equal(got, l) {
			t.Fatal(e)
		}
		for _, k := range []int{0, 1, len(s) / 2, len(s) - 1} {
			if got, e := Tokens(s[:k], raw); e != api.ErrShort || got != nil {
				t.Fatal("a part", k, len(s), e)
			}
		}
		if _, e := Tokens(s+"\x00", raw); e != api.ErrForm {
			t.Fatal("a byte more", e)
		}
		if l[len(l)-1].Kind != api.Literal {
			if _, e := Tokens(s, raw-1); e != api.ErrForm {
				t.Fatal("a byte less is told", e)
			}
		}
	}
}

// asBits writes tokens by chapter 9's codes, bit by bit.
func asBits(l []api.Token) *bitw.Writer {
	main, dist, _ := count.Tables(l)
	w := bitw.New()
	code := func(lengths []int, sym int) {
		bits, _ := slow.Encode(lengths, []int{sym})
		for _, b := range bits {
			if b {
				w.Put(1, 1)
			} else {
				w.Put(0, 1)
			}
		}
	}
	lens.Put(w, main)
	used := slices.Max(dist) > 0
	if used {
		w.Put(1, 1)
		lens.Put(w, dist)
	} else {
		w.Put(0, 1)
	}
	for _, t := range l {
		sym, _ := token.Sym(t)
		code(main, sym)
		switch {
		case t.Kind == api.Copy && t.Len == 11 && t.Dist == 10:
			w.Put(1, 1)
			code(dist, 6)
			w.Put(1, 2)
		case t.Kind == api.Repeat && t.Len == 257:
			w.Put(31, 5)
		}
	}
	return w
}

func TestBits(t *testing.T) {
	a, c, r := api.Token{Byte: 97}, api.Token{Kind: api.Copy, Len: 11, Dist: 10}, api.Token{Kind: api.Repeat, Len: 257, Rep: 2}
	for _, l := range [][]api.Token{{a, a, c, a, r}, {a, r, a}, {a}} {
		w := asBits(l)
		s, e := Put(l)
		if e != api.OK || s != w.Bytes() || Size(l) != w.Len() {
			t.Errorf("%v: %q, not %q", l, s, w.Bytes())
		}
	}
}

func TestPutRefuses(t *testing.T) {
	for _, c := range []struct {
		l []api.Token
		e api.Errno
	}{{nil, api.ErrArg}, {[]api.Token{{Byte: 1}, {Byte: 256}}, api.ErrToken}, {[]api.Token{{Kind: api.Copy, Len: 2}}, api.ErrToken}, {[]api.Token{{Kind: 3}}, api.ErrToken}} {
		if s, e := Put(c.l); s != "" || e != c.e || Size(c.l) != 0 {
			t.Error(c.l, e)
		}
	}
}

func TestTokensRefuses(t *testing.T) {
	for _, raw := range []int{0, -1, 1<<16 + 1} {
		if l, e := Tokens("abc", raw); l != nil || e != api.ErrArg {
			t.Error(raw, e)
		}
	}
	if l, e := Tokens("", 1); l != nil || e != api.ErrShort {
		t.Error("no bytes", e)
	}
	main, dist := make([]int, 401), make([]int, 52)
	build := func(mainUsed, distUsed []int, flag int, tail uint64, n int) string {
		clear(main)
		clear(dist)
		for _, s := range mainUsed {
			main[s] = 1
		}
		for _, s := range distUsed {
			dist[s] = 1
		}
		w := bitw.New()
		lens.Put(w, main)
		if flag >= 0 {
			w.Put(uint64(flag), 1)
		}
		if flag == 1 {
			lens.Put(w, dist)
		}
		w.Put(tail, n)
		return w.Bytes()
	}
	for k, c := range []struct {
		s   string
		raw int
		e   api.Errno
	}{
		{build(nil, nil, 0, 0, 30), 5, api.ErrForm},                   // no main symbol
		{build([]int{1, 2, 3}, nil, 0, 0, 30), 5, api.ErrForm},        // lengths that are none
		{build([]int{97}, nil, 1, 0, 30), 5, api.ErrForm},             // no distance, though it is said
		{build([]int{97}, []int{0, 1, 2}, 1, 0, 30), 5, api.ErrForm},  // distances' lengths that are none
		{build([]int{97}, nil, 0, 1, 1), 5, api.ErrForm},              // no code
		{build([]int{97}, nil, 0, 0, 1), 50, api.ErrShort},            // too few tokens
		{build([]int{97, 256}, nil, 0, 1, 40), 5, api.ErrForm},        // a copy, and no distance has a code
		{build([]int{97, 264}, []int{0}, 1, 1, 40), 5, api.ErrForm},   // ten bytes for five
		{build([]int{97, 285}, nil, 0, 0, 0), 1, api.OK},              // bits 0 of the end are a literal
		{build([]int{97}, nil, 0, 0, 0) + "\x00\x00", 1, api.ErrForm}, // eight bits are left
		{build([]int{97}, nil, 0, 0, 0)[:2], 1, api.ErrShort},         // tables that end
	} {
		if l, e := Tokens(c.s, c.raw); e != c.e || (l == nil) != (e != api.OK) {
			t.Errorf("%d: %v, %d, not %d", k, l, e, c.e)
		}
	}
}

func TestMostBytes(t *testing.T) {
	l := []api.Token{{Byte: 97}}
	for raw := 1; raw < 1<<16; raw += 257 {
		l = append(l, api.Token{Kind: api.Repeat, Len: 257})
	}
	s, _ := Put(l)
	if got, e := Tokens(s, 1<<16); e != api.OK || !slices.Equal(got, l) {
		t.Error(len(got), e)
	}
}

func TestBitsLeft(t *testing.T) {
	l := []api.Token{{Byte: 97}, {Byte: 98}, {Byte: 97}}
	s, _ := Put(l)
	n := Size(l)
	if n%8 == 0 {
		l = append(l, api.Token{Byte: 97})
		s, _ = Put(l)
		n = Size(l)
	}
	for bit := n; bit < 8*len(s); bit++ {
		b := []byte(s)
		b[bit/8] |= 1 << (bit % 8)
		if got, e := Tokens(string(b), len(l)); e != api.ErrForm || got != nil {
			t.Error("a bit 1 is left", bit, e)
		}
	}
}

func TestCopyWithoutDistancesIsReadFirst(t *testing.T) {
	// The symbol of ten and eleven bytes ends the last byte: its extra bit lacks, ahead of what the distance lacks.
	seen := 0
	for other := 265; other < 400; other++ {
		main := make([]int, 401)
		main[264], main[other], main[(other*7)%264] = 1, 2, 2
		w := bitw.New()
		lens.Put(w, main)
		w.Put(0, 2) // no distances, and the symbol's code
		if w.Len()%8 != 0 {
			continue
		}
		seen++
		if _, e := Tokens(w.Bytes(), 20); e != api.ErrShort {
			t.Error("the extra bit lacks", e)
		}
		if _, e := Tokens(w.Bytes()+"\x00", 20); e != api.ErrForm {
			t.Error("the distance lacks", e)
		}
	}
	if seen == 0 {
		t.Error("no table is long enough for it")
	}
}

func TestEndsOnAnyBytes(t *testing.T) {
	rnd := rand.New(rand.NewSource(2))
	for k := range 4000 {
		b := make([]byte, rnd.Intn(60))
		rnd.Read(b)
		if k%2 == 0 {
			l, _ := random(rnd, 1+rnd.Intn(9))
			s, _ := Put(l)
			b = []byte(s)
			b[rnd.Intn(len(b))] ^= 1 << rnd.Intn(8)
		}
		raw := 1 + rnd.Intn(2000)
		l, e := Tokens(string(b), raw)
		sum := 0
		for _, t := range l {
			sum += token.Size(t)
		}
		if e == api.OK && sum != raw || e != api.OK && (l != nil || e != api.ErrShort && e != api.ErrForm) {
			t.Fatal(e, sum, raw)
		}
	}
}
