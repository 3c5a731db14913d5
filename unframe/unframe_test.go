package unframe_test

import (
	"math/rand"
	"strings"
	"testing"

	"gladstone/adler"
	"gladstone/api"
	"gladstone/coded"
	"gladstone/crc"
	"gladstone/frame"
	"gladstone/heads"
	. "gladstone/unframe"
)

func text(rnd *rand.Rand, n, few int) string {
	b := make([]byte, n)
	for i := range b {
		b[i] = byte('a' + rnd.Intn(few))
	}
	return string(b)
}

func TestRound(t *testing.T) {
	rnd := rand.New(rand.NewSource(1))
	for level := range 10 {
		for _, n := range []int{0, 1, 100, 300, 1 << 16, 150000} {
			few := 1 + rnd.Intn(30)
			data, dict := text(rnd, n, few), text(rnd, rnd.Intn(3)*1000, few)
			s, e := frame.Compress(data, api.Params{Level: level, Log: 15 + rnd.Intn(12), Dict: dict})
			if e != api.OK {
				t.Fatal(e)
			}
			if got, e := Decompress(s, dict, n); got != data || e != api.OK {
				t.Fatal(level, n, e)
			}
			if got, e := Prefix(s, dict, api.NoLimit); got != data || e != api.OK {
				t.Fatal(level, n, e)
			}
		}
	}
}

func build(h api.Header, rest string) string {
	s, _ := heads.Put(h)
	return s + rest
}

func blk(kind, raw int, held string) string {
	s, _ := heads.PutBlock(api.Block{Kind: kind, Raw: raw, Coded: len(held)})
	return s + held
}

func sum(s string) string {
	x := crc.Sum(s)
	return string([]byte{byte(x), byte(x >> 8), byte(x >> 16), byte(x >> 24)})
}

func TestErrors(t *testing.T) {
	a := strings.Repeat("a", 40)
	piece := func(l ...api.Token) string {
		s, _ := coded.Put(l)
		return s
	}
	lit, rep := api.Token{Byte: 97}, api.Token{Kind: api.Repeat, Len: 39}
	h := api.Header{Log: 15}
	whole := build(h, blk(1, 3, "abc")+blk(2, 40, piece(lit, rep))+"\x00"+sum("abc"+a))
	with := api.Header{Log: 15, Dict: true, DictID: adler.Sum("dict")}
	long := strings.Repeat("d", 1<<15+1)
	for k, c := range []struct {
		s, dict string
		limit   int
		out     string
		e       api.Errno
	}{
		{whole, "", 43, "abc" + a, api.OK},
		{whole, "", -1, "", api.ErrArg},
		{"", "", 9, "", api.ErrShort},
		{"GLE", "", 9, "", api.ErrMagic},
		{"GLD1\x00", "", 9, "", api.ErrWindow},
		{"GLD1\x2f\x00\x00", "x", 9, "", api.ErrShort},
		{whole, "d", 43, "", api.ErrDict},
		{"GLD1\x0f", "d", 43, "", api.ErrDict},
		{build(with, "\x00"+sum("")), "dict", 9, "", api.OK},
		{build(with, "\x00"+sum("")), "dicu", 9, "", api.ErrDict},
		{build(with, "\x00"+sum("")), "", 9, "", api.ErrDict},
		{build(api.Header{Log: 15, Dict: true, DictID: 1}, "\x00"+sum("")), "", 9, "", api.ErrDict},
		{build(api.Header{Log: 15, Dict: true, DictID: adler.Sum(long)}, "\x00"+sum("")), long, 9, "", api.ErrDict},
		{build(api.Header{Log: 15, Dict: true, DictID: adler.Sum(long[1:])}, "\x00"+sum("")), long[1:], 9, "", api.OK},
		{build(h, ""), "", 9, "", api.ErrShort},
		{build(h, "\x03"), "", 9, "", api.ErrBlock},
		{build(h, "\x01\x00\x00\x01\x00"), "", 9, "", api.ErrBlock},
		{build(h, blk(1, 3, "abc")+"\x01\x02"), "", 9, "abc", api.ErrShort},
		{build(h, blk(1, 3, "abc")+"\x01\x02\x00\x02\x00ab"), "", 9, "abc", api.ErrShort},
		{build(h, blk(1, 3, "abc")+"\x01\x02\x00\x02\x00ab"), "", 5, "abc", api.ErrLimit},
		{whole, "", 42, "abc", api.ErrLimit},
		{whole, "", 2, "", api.ErrLimit},
		{whole, "", 0, "", api.ErrLimit},
		{build(h, blk(2, 40, "xxxx")), "", 40, "", api.ErrBlock},
		{build(h, blk(2, 39, piece(rep))), "", 40, "", api.ErrBlock}, // nothing is ahead of it
		{build(h, blk(1, 3, "abc")+blk(2, 39, piece(rep))+"\x00"), "", 99, "abc" + strings.Repeat("c", 39), api.ErrShort},
		{whole[:len(whole)-1], "", 99, "abc" + a, api.ErrShort},
		{whole[:len(whole)-5], "", 99, "abc" + a, api.ErrShort},
		{whole[:len(whole)-1] + "x", "", 99, "abc" + a, api.ErrSum},
		{whole[:len(whole)-1] + "xy", "", 99, "abc" + a, api.ErrSum},
		{whole + "x", "", 99, "abc" + a, api.ErrForm},
	} {
		out, e := Prefix(c.s, c.dict, c.limit)
		if out != c.out || e != c.e {
			t.Errorf("%d: Prefix %q, %d, not %d", k, out, e, c.e)
		}
		out, e = Decompress(c.s, c.dict, c.limit)
		if e != c.e || e != api.OK && out != "" || e == api.OK && out != c.out {
			t.Errorf("%d: Decompress %q, %d", k, out, e)
		}
	}
}

func TestWindowAndDistances(t *testing.T) {
	rnd := rand.New(rand.NewSource(2))
	first := text(rnd, 1<<15, 26)
	put := func(l ...api.Token) string {
		s, _ := coded.Put(l)
		return s
	}
	h := api.Header{Log: 15}
	two := blk(1, 1<<15, first)
	copies := func(d int) string {
		return blk(2, 100, put(api.Token{Kind: api.Copy, Len: 50, Dist: d}, api.Token{Kind: api.Repeat, Len: 50}))
	}
	if out, e := Prefix(build(h, two+copies(1<<15)), "", 1<<20); e != api.ErrShort || out != first+first[:100] {
		t.Error("from the window's end", e)
	}
	if out, e := Prefix(build(h, two+copies(1<<15+1)), "", 1<<20); e != api.ErrBlock || out != first {
		t.Error("past the window", e)
	}
	// The last four distances go from block to block, a stored one leaves them.
	again := blk(2, 50, put(api.Token{Kind: api.Repeat, Len: 50}))
	out, e := Prefix(build(h, two+copies(200)+blk(1, 3, "abc")+again), "", 1<<20)
	all := first + first[1<<15-200:1<<15-100] + "abc"
	if e != api.ErrShort || out != all+all[len(all)-200:len(all)-150] {
		t.Error("distances", e)
	}
}
