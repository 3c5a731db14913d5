package listing_test

import (
	"math/rand"
	"strconv"
	"strings"
	"testing"

	"gladstone/adler"
	"gladstone/api"
	"gladstone/coded"
	"gladstone/denote"
	"gladstone/frame"
	"gladstone/heads"
	. "gladstone/listing"
)

func TestExample(t *testing.T) {
	s, _ := frame.Compress("", api.Params{Log: 15})
	if text, e := Text(s); text != "log 15\nat 5 end\n" || e != api.OK {
		t.Errorf("%q, %d", text, e)
	}
	l, e := Pieces(s)
	if len(l) != 1 || l[0].At != 5 || l[0].Block != (api.Block{}) || l[0].Tokens != nil || e != api.OK {
		t.Error(l, e)
	}
}

func TestPieces(t *testing.T) {
	rnd := rand.New(rand.NewSource(1))
	b := make([]byte, 1<<16)
	rnd.Read(b)
	data := string(b) + strings.Repeat("gladstone ", 900)
	dict := "dictionary"
	s, _ := frame.Compress(data, api.Params{Level: 5, Log: 17, Dict: dict})
	l, e := Pieces(s)
	if e != api.OK || len(l) != 3 {
		t.Fatal(e, len(l))
	}
	if l[0].At != 9 || l[0].Block != (api.Block{Kind: 1, Raw: 1 << 16, Coded: 1 << 16}) || l[0].Tokens != nil {
		t.Error(l[0].At, l[0].Block)
	}
	if l[1].At != 9+5+1<<16 || l[1].Block.Kind != 2 || l[1].Block.Raw != 9000 {
		t.Error(l[1].At, l[1].Block)
	}
	all, _, f := denote.Apply([]byte(dict+data[:1<<16]), api.Reps{1, 2, 3, 4}, l[1].Tokens, 1<<17)
	if f != api.OK || string(all) != dict+data {
		t.Error("the tokens are others")
	}
	if l[2].At != len(s)-5 || l[2].Block.Kind != 0 {
		t.Error(l[2])
	}
	want := "log 17 dict " + strconv.Itoa(int(adler.Sum(dict))) + "\nat 9 stored 65536\nat 65550 coded 9000 " +
		strconv.Itoa(l[1].Block.Coded) + " " + strconv.Itoa(len(l[1].Tokens)) + "\nat " + strconv.Itoa(len(s)-5) + " end\n"
	if text, e := Text(s); text != want || e != api.OK {
		t.Errorf("%q, not %q", text, want)
	}
}

func TestErrors(t *testing.T) {
	head, _ := heads.Put(api.Header{Log: 15})
	one, _ := heads.PutBlock(api.Block{Kind: 1, Raw: 3, Coded: 3})
	bad, _ := heads.PutBlock(api.Block{Kind: 2, Raw: 9, Coded: 3})
	far, _ := coded.Put([]api.Token{{Kind: api.Copy, Len: 100, Dist: 1 << 26}})
	two, _ := heads.PutBlock(api.Block{Kind: 2, Raw: 100, Coded: len(far)})
	for k, c := range []struct {
		s string
		e api.Errno
	}{
		{"", api.ErrShort}, {"GLX", api.ErrMagic}, {"GLD1\x00", api.ErrWindow}, {head, api.ErrShort}, {head + "\x07", api.ErrBlock}, {head + one[:3], api.ErrShort},
		{head + one + "ab", api.ErrShort}, {head + one + "abc", api.ErrShort}, {head + "\x01\x00\x00\x01\x00abc", api.ErrBlock}, {head + bad + "xx", api.ErrShort}, {head + bad + "xxx", api.ErrBlock},
		{head + "\x00abc", api.ErrShort}, {head + "\x00abcd", api.OK}, {head + "\x00abcde", api.ErrForm},
		{head + two + far + "\x00abcd", api.OK}, // where a copy comes from is not asked
	} {
		l, e := Pieces(c.s)
		text, f := Text(c.s)
		if e != c.e || f != c.e || (len(l) == 0) != (e != api.OK) || (text == "") != (e != api.OK) {
			t.Error(k, l, e, text, f)
		}
	}
}
