package seek_test

import (
	"math"
	"math/rand"
	"slices"
	"testing"

	"gladstone/api"
	"gladstone/frame"
	"gladstone/listing"
	. "gladstone/seek"
	"gladstone/unframe"
)

func data() string {
	b := make([]byte, 150000)
	rand.New(rand.NewSource(1)).Read(b[:70000])
	return string(b)
}

func TestPoints(t *testing.T) {
	s, _ := frame.Compress(data(), api.Params{Level: 1, Log: 15})
	l, _ := listing.Pieces(s)
	got, e := Points(s)
	want := []api.Point{{Raw: 0, At: 5}, {Raw: 1 << 16, At: l[1].At}, {Raw: 1 << 17, At: l[2].At}, {Raw: 150000, At: len(s) - 5}}
	if !slices.Equal(got, want) || e != api.OK {
		t.Error(got, e)
	}
	empty, _ := frame.Compress("", api.Params{Log: 15})
	if got, e := Points(empty); !slices.Equal(got, []api.Point{{At: 5}}) || e != api.OK {
		t.Error(got, e)
	}
	for bad, want := range map[string]api.Errno{"": api.ErrShort, "x": api.ErrMagic, "GLD1\x00": api.ErrWindow, s + "x": api.ErrForm, s[:9]: api.ErrShort, "GLD1\x0f\x03": api.ErrBlock} {
		if got, e := Points(bad); got != nil || e != want {
			t.Error(len(bad), e)
		}
	}
}

func TestRange(t *testing.T) {
	all := data()
	s, _ := frame.Compress(all, api.Params{Level: 1, Log: 15, Dict: "words"})
	for _, c := range []struct {
		s, dict  string
		from, to int
		want     string
		e        api.Errno
	}{
		{s, "words", 0, 0, "", api.OK}, {s, "words", 65000, 66000, all[65000:66000], api.OK}, {s, "words", 0, 150000, all, api.OK}, {s, "words", 150000, 150000, "", api.OK},
		{s, "words", 0, 150001, "", api.ErrRange}, {s, "words", 150001, 150001, "", api.ErrRange}, {s, "words", -1, 5, "", api.ErrArg}, {s, "words", 5, 4, "", api.ErrArg},
		{s, "words", math.MinInt, math.MinInt, "", api.ErrArg}, {s, "words", math.MaxInt, math.MaxInt, "", api.ErrRange},
		{s[:len(s)-1], "words", 5, 9, all[5:9], api.OK}, {s[:len(s)-1], "words", 5, 150001, "", api.ErrShort}, {s + "x", "words", 9, 150000, all[9:], api.OK}, {s + "x", "words", 9, 150001, "", api.ErrForm},
		{s[:70000], "words", 65000, 1 << 16, all[65000 : 1<<16], api.OK}, {s[:70000], "words", 65000, 1<<16 + 1, "", api.ErrShort},
		{s, "", 0, 0, "", api.OK}, {s, "", 0, 1, "", api.ErrDict}, {"", "", 0, 0, "", api.OK}, {"x", "", 0, 1, "", api.ErrMagic},
	} {
		if got, e := Range(c.s, c.dict, c.from, c.to); got != c.want || e != c.e {
			t.Error(len(c.s), c.dict, c.from, c.to, len(got), e)
		}
	}
	if whole, e := unframe.Decompress(s, "words", 150000); whole != all || e != api.OK {
		t.Error(e)
	}
}
