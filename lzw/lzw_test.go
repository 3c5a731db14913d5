package lzw_test

import (
	"math"
	"math/rand"
	"strings"
	"testing"

	"gladstone/api"
	"gladstone/bitw"
	. "gladstone/lzw"
)

// slow keeps all rows as texts.
func slow(s string, most int) string {
	rows := map[string]int{}
	for b := range 256 {
		rows[string([]byte{byte(b)})] = b
	}
	w := bitw.New()
	for s != "" {
		n := 1
		for k := n; k <= len(s); k++ {
			if _, ok := rows[s[:k]]; ok {
				n = k
			}
		}
		bits := 9
		for len(rows)-1 >= 1<<bits {
			bits++
		}
		w.Put(uint64(rows[s[:n]]), bits)
		if n < len(s) && len(rows) < 1<<most {
			rows[s[:n+1]] = len(rows)
		}
		s = s[n:]
	}
	return w.Bytes()
}

// numbers writes numbers in so many bits each.
func numbers(bits int, l ...int) string {
	w := bitw.New()
	for _, x := range l {
		w.Put(uint64(x), bits)
	}
	return w.Bytes()
}

func TestExample(t *testing.T) {
	if s, e := Encode("aaa", 9); s != numbers(9, 97, 256) || e != api.OK {
		t.Errorf("%q, %d", s, e)
	}
	if s, e := Encode("", 16); s != "" || e != api.OK {
		t.Errorf("%q, %d", s, e)
	}
	if s, e := Decode("", 0, 9); s != "" || e != api.OK {
		t.Errorf("%q, %d", s, e)
	}
}

func TestRound(t *testing.T) {
	rnd := rand.New(rand.NewSource(1))
	for k := range 200 {
		b := make([]byte, rnd.Intn(1<<rnd.Intn(13)))
		few := 1 + rnd.Intn(1+rnd.Intn(256))
		for i := range b {
			b[i] = byte(rnd.Intn(few))
		}
		most := 9 + k%8
		s, e := Encode(string(b), most)
		if s != slow(string(b), most) || e != api.OK {
			t.Fatal(len(b), most, e)
		}
		if got, e := Decode(s, len(b), most); got != string(b) || e != api.OK {
			t.Fatal(len(b), most, e)
		}
		if got, e := Decode(s+"\x00", len(b), most); got != "" || e != api.ErrForm {
			t.Fatal("a byte more", e)
		}
		if len(s) > 0 {
			if got, e := Decode(s[:len(s)-1], len(b), most); got != "" || e != api.ErrShort {
				t.Fatal("a byte less", e)
			}
		}
	}
	long := strings.Repeat("abcabd", 200000)
	for _, most := range []int{9, 12, 16} {
		s, e := Encode(long, most)
		if got, f := Decode(s, len(long), most); got != long || e != api.OK || f != api.OK {
			t.Error(most, e, f)
		}
	}
}

func TestMostBytes(t *testing.T) {
	much := strings.Repeat("x", 1<<24)
	s, e := Encode(much, 16)
	if got, f := Decode(s, 1<<24, 16); got != much || e != api.OK || f != api.OK {
		t.Error(len(got), e, f)
	}
}

func TestErrors(t *testing.T) {
	for _, most := range []int{8, 17, 0, -1, math.MaxInt} {
		if s, e := Encode("a", most); s != "" || e != api.ErrArg {
			t.Error(most, e)
		}
		if s, e := Decode("a", 1, most); s != "" || e != api.ErrArg {
			t.Error(most, e)
		}
	}
	for _, many := range []int{-1, 1<<24 + 1, math.MinInt} {
		if s, e := Decode("a", many, 9); s != "" || e != api.ErrArg {
			t.Error(many, e)
		}
	}
	for k, c := range []struct {
		s    string
		many int
		out  string
		e    api.Errno
	}{
		{numbers(9, 256), 1, "", api.ErrForm}, // no row yet
		{numbers(9, 97, 257), 3, "", api.ErrForm},
		{numbers(9, 97, 256), 3, "aaa", api.OK},
		{numbers(9, 97, 256), 2, "", api.ErrForm}, // more than are asked for
		{numbers(9, 97, 98, 256, 258), 7, "abababa", api.OK},
		{numbers(9, 97, 97), 2, "aa", api.OK}, // not the longest rows
		{numbers(9, 97, 97, 256), 4, "aaaa", api.OK},
		{numbers(9, 97), 2, "", api.ErrShort},
		{"", 1, "", api.ErrShort},
		{"\x00", 0, "", api.ErrForm},
		{numbers(9, 97) + "\x00", 1, "", api.ErrForm},
		{numbers(9, 97, 1)[:2], 1, "", api.ErrForm}, // a bit 1 is left
	} {
		if s, e := Decode(c.s, c.many, 9); s != c.out || e != c.e {
			t.Errorf("%d: %q, %d", k, s, e)
		}
	}
}
