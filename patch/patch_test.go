package patch_test

import (
	"math/rand"
	"strings"
	"testing"

	"gladstone/api"
	"gladstone/frame"
	. "gladstone/patch"
	"gladstone/varint"
)

func TestRound(t *testing.T) {
	rnd := rand.New(rand.NewSource(1))
	for range 60 {
		b := make([]byte, rnd.Intn(1<<rnd.Intn(16)))
		rnd.Read(b)
		old := string(b)
		cut := rnd.Intn(len(b) + 1)
		now := "new" + old[cut:] + "words" + old[:cut]
		s, e := Make(old, now)
		size, _ := varint.Put(len(old))
		f, _ := frame.Compress(now, api.Params{Level: 6, Log: 26, Dict: old})
		if s != size+f || e != api.OK {
			t.Fatal(e)
		}
		if len(old) > 1000 && len(s) > len(old)/2 {
			t.Error("not short", len(s), len(old))
		}
		if got, e := Apply(old, s, len(now)); got != now || e != api.OK {
			t.Fatal(e)
		}
		if got, e := Apply(old, s, len(now)-1); got != "" || e != api.ErrLimit {
			t.Fatal(e)
		}
		if got, e := Apply(old+"x", s, len(now)); got != "" || e != api.ErrForm {
			t.Fatal(e)
		}
		if len(old) > 0 {
			if got, e := Apply(string(b[:len(b)-1])+string([]byte{b[len(b)-1] + 1}), s, len(now)); got != "" || e != api.ErrDict {
				t.Fatal(e)
			}
		}
	}
}

// TestLevel has texts at which levels part.
func TestLevel(t *testing.T) {
	rnd := rand.New(rand.NewSource(2))
	others := map[int]int{}
	for range 40 {
		b := make([]byte, 1000)
		for i := range b {
			b[i] = byte('a' + rnd.Intn(3))
		}
		for _, now := range []string{string(b[700:900]), string(b[100:])} {
			old := string(b[:700])
			s, _ := Make(old, now)
			for _, level := range []int{0, 1, 6, 7} {
				f, _ := frame.Compress(now, api.Params{Level: level, Log: 26, Dict: old})
				if s != "\xbc\x05"+f {
					others[level]++
				}
			}
		}
	}
	if others[0] == 0 || others[1] == 0 || others[6] > 0 || others[7] == 0 {
		t.Error(others)
	}
}

func TestErrors(t *testing.T) {
	much := strings.Repeat("x", 1<<26+1)
	if s, e := Make(much, "a"); s != "" || e != api.ErrLimit {
		t.Error(e)
	}
	if s, e := Make(much[1:], "a"); s == "" || e != api.OK {
		t.Error(e)
	}
	if s, e := Make("a", much); s != "" || e != api.ErrLimit {
		t.Error(e)
	}
	for _, c := range []struct {
		old, patch string
		limit      int
		e          api.Errno
	}{{"", "", 5, api.ErrShort}, {"", "\x80\x00", -1, api.ErrForm}, {"a", "\x00", -1, api.ErrForm}, {"a", "\x01", -1, api.ErrArg}, {"a", "\x01", 5, api.ErrShort}, {"a", "\x01x", 5, api.ErrMagic}} {
		if s, e := Apply(c.old, c.patch, c.limit); s != "" || e != c.e {
			t.Errorf("%q: %d", c.patch, e)
		}
	}
}
