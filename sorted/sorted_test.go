package sorted_test

import (
	"math/rand"
	"slices"
	"strings"
	"testing"

	"gladstone/api"
	"gladstone/bittree"
	"gladstone/bwt"
	"gladstone/mtf"
	. "gladstone/sorted"
	"gladstone/varint"
	"gladstone/zeros"
)

func TestExample(t *testing.T) {
	if s, e := Put(""); s != "\x00\x00\x00" || e != api.OK {
		t.Errorf("%q, %d", s, e)
	}
	if s, e := Read("\x00\x00\x00"); s != "" || e != api.OK {
		t.Errorf("%q, %d", s, e)
	}
}

// number is the bytes of a number.
func number(n int) string {
	s, _ := varint.Put(n)
	return s
}

func TestRound(t *testing.T) {
	rnd := rand.New(rand.NewSource(1))
	for range 100 {
		b := make([]byte, rnd.Intn(1<<rnd.Intn(13)))
		few := 1 + rnd.Intn(256)
		for i := range b {
			b[i] = byte(rnd.Intn(few))
		}
		s, e := Put(string(b))
		x, at := bwt.Turn(string(b))
		l, _ := zeros.Pack(mtf.Move(x))
		coded, _ := bittree.Encode(l, 9)
		if s != number(len(b))+number(at)+number(len(l))+coded || e != api.OK {
			t.Fatal("Put", e)
		}
		if got, e := Read(s); got != string(b) || e != api.OK {
			t.Fatal("Read", e)
		}
		if _, e := Read(s + "\x00"); e != api.ErrForm {
			t.Fatal("a byte more", e)
		}
		bad := []byte(s)
		bad[rnd.Intn(len(bad))] ^= 1 << rnd.Intn(8)
		if got, e := Read(string(bad)); e == api.OK && got == string(b) || e != api.OK && got != "" {
			t.Fatal("spoilt", e)
		}
	}
}

func TestLongest(t *testing.T) {
	s := strings.Repeat("abcdefgh", 1<<13)
	x, e := Put(s)
	if got, f := Read(x); e != api.OK || f != api.OK || got != s || len(x) > 200 {
		t.Error(len(x), e, f)
	}
	if x, e := Put(s + "a"); x != "" || e != api.ErrLimit {
		t.Error(e)
	}
}

func TestErrors(t *testing.T) {
	coded := func(l ...int) string {
		s, _ := bittree.Encode(l, 9)
		return s
	}
	ones := slices.Repeat([]int{1}, 40)
	ab, _ := Put("ab")
	for k, c := range []struct {
		s string
		e api.Errno
	}{
		{"", api.ErrShort}, {"\x80", api.ErrShort}, {"\x80\x00", api.ErrForm}, {"\x01", api.ErrShort}, {"\x01\x80", api.ErrShort}, {"\x01\xff\x00", api.ErrForm}, {"\x01\x01", api.ErrShort},
		{"\x01\x01\x80\x80\x80\x80\x80", api.ErrForm},
		{number(1<<16+1) + "\x01\x01", api.ErrLimit},
		{"\x01\x01" + number(1<<20+1), api.ErrLimit},
		{number(1<<16+1) + "\x01" + "\x80", api.ErrShort},
		{"\x05\x01\x28" + coded(ones...), api.ErrLimit},
		{"\x03\x01\x02" + coded(98, 98), api.ErrForm},
		{"\x01\x01\x01" + coded(258), api.ErrRange},
		{"\x01\x02\x01" + coded(98), api.ErrRange},
		{"\x01\x00\x01" + coded(98), api.ErrRange},
		{"\x02\x02\x02" + coded(98, 2)[:1], api.ErrForm},
		{"\x02\x01\x02" + coded(98, 0), api.ErrForm},                                         // aa never stands first
		{"\x01\x01" + number(1<<20) + coded(slices.Repeat([]int{2}, 1<<20)...), api.ErrForm}, // as many as may be, but not one
		{ab, api.OK},
		{ab[:len(ab)-1], api.ErrForm},
	} {
		if s, e := Read(c.s); e != c.e || e != api.OK && s != "" {
			t.Errorf("%d: %q, %d, not %d", k, s, e, c.e)
		}
	}
}
