package tally_test

import (
	"math"
	"strconv"
	"strings"
	"testing"

	"gladstone/api"
	"gladstone/frame"
	"gladstone/listing"
	. "gladstone/tally"
)

func TestTokens(t *testing.T) {
	l := []api.Token{{}, {Byte: 256}, {Byte: 255}, {Kind: 1, Len: 2, Dist: 1}, {Kind: 1, Len: 2}, {Kind: 2, Len: 2}, {Kind: 2, Len: 258, Rep: 3}, {Kind: 2, Len: 3}, {Kind: 2, Len: 3, Rep: 4}, {Kind: 3}, {Kind: -1}}
	if a, b, c := Tokens(l); a != 2 || b != 1 || c != 3 {
		t.Error(a, b, c)
	}
	if a, b, c := Tokens(nil); a+b+c != 0 {
		t.Error(a, b, c)
	}
}

func TestGain(t *testing.T) {
	for _, c := range []struct {
		raw, coded int
		gain       float64
		e          api.Errno
	}{{4, 1, 0.75, api.OK}, {4, 0, 1, api.OK}, {4, 8, -1, api.OK}, {1, 0, 1, api.OK}, {0, 0, 0, api.ErrArg}, {-1, 1, 0, api.ErrArg}, {1, -1, 0, api.ErrArg}, {math.MinInt, math.MinInt, 0, api.ErrArg}} {
		if g, e := Gain(c.raw, c.coded); g != c.gain || e != c.e {
			t.Error(c, g, e)
		}
	}
}

func TestText(t *testing.T) {
	data := strings.Repeat("of frames and windows, ", 6000)
	s, _ := frame.Compress(data, api.Params{Level: 4, Log: 16, Dict: "windows"})
	l, _ := listing.Pieces(s)
	var all []api.Token
	for _, p := range l {
		all = append(all, p.Tokens...)
	}
	a, b, c := Tokens(all)
	n := strconv.Itoa
	want := "raw " + n(len(data)) + " coded " + n(len(s)) + " literals " + n(a) + " copies " + n(b) + " repeats " + n(c) + "\n"
	if text, e := Text(s, "windows"); text != want || e != api.OK || len(l) != 4 {
		t.Errorf("%q, not %q, %d", text, want, e)
	}
	for k, c := range []struct {
		s, dict string
		e       api.Errno
	}{{s, "", api.ErrDict}, {s[:len(s)-1], "windows", api.ErrShort}, {s + "x", "windows", api.ErrForm}, {s[:len(s)-1] + "\x00\x00", "windows", api.ErrSum}, {"", "", api.ErrShort}} {
		if text, e := Text(c.s, c.dict); text != "" || e != c.e {
			t.Error(k, text, e)
		}
	}
}
