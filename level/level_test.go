package level_test

import (
	"math"
	"strings"
	"testing"

	"gladstone/api"
	. "gladstone/level"
)

func TestCheckAndHead(t *testing.T) {
	full := strings.Repeat("d", 1<<15)
	for k, c := range []struct {
		p api.Params
		h api.Header
		e api.Errno
	}{
		{api.Params{Level: 0, Log: 15}, api.Header{Log: 15}, api.OK},
		{api.Params{Level: 9, Log: 26, Dict: "a"}, api.Header{Log: 26, Dict: true, DictID: 6422626}, api.OK},
		{api.Params{Level: 3, Log: 15, Dict: full}, api.Header{Log: 15, Dict: true, DictID: 0x8ae00000 + 1}, api.OK},
		{api.Params{Level: -1, Log: 1, Dict: full + "d"}, api.Header{}, api.ErrRange},
		{api.Params{Level: 10, Log: 15}, api.Header{}, api.ErrRange},
		{api.Params{Level: 1, Log: 14, Dict: full + "d"}, api.Header{}, api.ErrWindow},
		{api.Params{Level: 1, Log: 27}, api.Header{}, api.ErrWindow},
		{api.Params{Level: 1, Log: math.MinInt}, api.Header{}, api.ErrWindow},
		{api.Params{Level: 1, Log: 15, Dict: full + "d"}, api.Header{}, api.ErrDict},
		{api.Params{Level: 1, Log: 16, Dict: full + "d"}, api.Header{Log: 16, Dict: true, DictID: 1}, api.OK},
	} {
		if e := Check(c.p); e != c.e {
			t.Error(k, e)
		}
		h, e := Head(c.p)
		if c.h.DictID == 1 || len(c.p.Dict) == 1<<15 { // the sum itself is chapter 4's
			if h.DictID == 0 {
				t.Error("no sum")
			}
			h.DictID = c.h.DictID
		}
		if h != c.h || e != c.e {
			t.Error(k, h, e)
		}
	}
}

func TestOf(t *testing.T) {
	for level, want := range []api.Settings{{}, {Way: 1, Depth: 4}, {Way: 1, Depth: 16}, {Way: 1, Depth: 64}, {Way: 2, Depth: 16}, {Way: 2, Depth: 64}, {Way: 2, Depth: 256},
		{Way: 3, Depth: 1 << 27}, {Way: 3, Depth: 1 << 27, Passes: 1}, {Way: 3, Depth: 1 << 27, Passes: 2}} {
		if s, e := Of(level); s != want || e != api.OK {
			t.Error(level, s, e)
		}
	}
	for _, level := range []int{-1, 10, math.MaxInt, math.MinInt} {
		if s, e := Of(level); s != (api.Settings{}) || e != api.ErrRange {
			t.Error(level, s, e)
		}
	}
}
