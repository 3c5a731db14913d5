package multi_test

import (
	"math/rand"
	"slices"
	"strings"
	"testing"

	"gladstone/api"
	"gladstone/frame"
	. "gladstone/multi"
)

func TestJoin(t *testing.T) {
	for _, c := range []struct {
		l []string
		s string
	}{{nil, "\x00"}, {[]string{"", "a"}, "\x02\x00\x01a"}, {[]string{strings.Repeat("x", 300)}, "\x01\xac\x02" + strings.Repeat("x", 300)}} {
		if s := Join(c.l); s != c.s {
			t.Errorf("%q", s)
		}
		if l, e := Split(c.s); !slices.Equal(l, c.l) || e != api.OK {
			t.Error(l, e)
		}
		for k := range len(c.s) {
			if l, e := Split(c.s[:k]); l != nil || e != api.ErrShort {
				t.Error(k, l, e)
			}
		}
		if l, e := Split(c.s + "x"); l != nil || e != api.ErrForm {
			t.Error(l, e)
		}
	}
	for s, want := range map[string]api.Errno{"\x80\x00": api.ErrForm, "\x01\x80\x00": api.ErrForm, "\xff\xff\xff\xff\x0f\x00": api.ErrShort, "\x01\xff\xff\xff\xff\x0fabc": api.ErrShort, "\x80\x80\x80\x80\x80": api.ErrForm} {
		if l, e := Split(s); l != nil || e != want {
			t.Errorf("%q: %v, %d", s, l, e)
		}
	}
}

func TestPackAndOpen(t *testing.T) {
	rnd := rand.New(rand.NewSource(1))
	for level := range 10 {
		var l, frames []string
		all := 0
		p := api.Params{Level: level, Log: 15, Dict: strings.Repeat("word ", level%2)}
		for range rnd.Intn(6) {
			s := strings.Repeat("some words ", rnd.Intn(90))
			f, _ := frame.Compress(s, p)
			l, frames, all = append(l, s), append(frames, f), all+len(s)
		}
		s, e := Pack(l, p)
		if s != Join(frames) || e != api.OK {
			t.Fatal(level, e)
		}
		if got, e := Open(s, p.Dict, all); !slices.Equal(got, l) || e != api.OK {
			t.Fatal(level, e)
		}
		if all > 0 {
			if got, e := Open(s, p.Dict, all-1); got != nil || e != api.ErrLimit {
				t.Fatal(level, e)
			}
		}
		if len(l) > 0 {
			if got, e := Open(s, p.Dict+"x", all); got != nil || e != api.ErrDict {
				t.Fatal(level, e)
			}
		}
	}
}

func TestErrors(t *testing.T) {
	for _, l := range [][]string{nil, {"a"}} {
		for _, c := range []struct {
			p api.Params
			e api.Errno
		}{{api.Params{Level: 10}, api.ErrRange}, {api.Params{Log: 14}, api.ErrWindow}, {api.Params{Log: 15, Dict: strings.Repeat("x", 1<<15+1)}, api.ErrDict}} {
			if s, e := Pack(l, c.p); s != "" || e != c.e {
				t.Error(s, e)
			}
		}
	}
	if s, e := Pack(nil, api.Params{Log: 15}); s != "\x00" || e != api.OK {
		t.Errorf("%q, %d", s, e)
	}
	for _, c := range []struct {
		s     string
		limit int
		e     api.Errno
	}{{"", -1, api.ErrShort}, {"\x00x", -1, api.ErrForm}, {"\x00", -1, api.ErrArg}, {"\x01\x01x", -1, api.ErrArg}, {"\x01\x01x", 5, api.ErrMagic}, {"\x01\x00", 5, api.ErrShort}, {"\x00", 0, api.OK}} {
		if l, e := Open(c.s, "", c.limit); len(l) != 0 || e != c.e {
			t.Errorf("%q: %v, %d", c.s, l, e)
		}
	}
}
