package price_test

import (
	"math"
	"testing"

	"gladstone/api"
	. "gladstone/price"
)

func TestFlat(t *testing.T) {
	for _, c := range []struct{ main, dist, wantMain, wantDist int }{{8, 5, 8, 5}, {0, -9, 1, 1}, {math.MaxInt, 1 << 20, 1 << 20, 1 << 20}, {math.MinInt, 1<<20 + 1, 1, 1 << 20}} {
		p := Flat(c.main, c.dist)
		if Check(p) != api.OK || len(p.Main) != 401 || len(p.Dist) != 52 {
			t.Fatal("Flat is none")
		}
		for _, n := range p.Main {
			if n != c.wantMain {
				t.Fatal(n)
			}
		}
		for _, n := range p.Dist {
			if n != c.wantDist {
				t.Fatal(n)
			}
		}
	}
}

func TestCheck(t *testing.T) {
	set := func(main, dist, at, n int) api.Prices {
		p := Flat(3, 3)
		p.Main, p.Dist = append(p.Main, 3)[:main], append(p.Dist, 3)[:dist]
		if at >= 1000 {
			p.Dist[at-1000] = n
		} else if at >= 0 {
			p.Main[at] = n
		}
		return p
	}
	for k, c := range []struct {
		p api.Prices
		e api.Errno
	}{{api.Prices{}, api.ErrForm}, {set(400, 52, -1, 0), api.ErrForm}, {set(402, 52, -1, 0), api.ErrForm}, {set(401, 51, 0, -1), api.ErrForm}, {set(401, 53, -1, 0), api.ErrForm},
		{set(401, 52, 400, 0), api.ErrRange}, {set(401, 52, 0, 1<<20+1), api.ErrRange}, {set(401, 52, 1051, 0), api.ErrRange}, {set(401, 52, 1000, 1<<20+1), api.ErrRange},
		{set(401, 52, 0, 1), api.OK}, {set(401, 52, 1051, 1<<20), api.OK}} {
		if e := Check(c.p); e != c.e {
			t.Error(k, e)
		}
		if n, e := Token(c.p, api.Token{Byte: 999}); n != 0 || c.e != api.OK && e != c.e {
			t.Error("Token", k, e)
		}
		if n, e := All(c.p, []api.Token{{Byte: 7}}); e != c.e || (n == 0) != (e != api.OK) {
			t.Error("All", k, e)
		}
	}
}

func TestToken(t *testing.T) {
	p := Flat(1, 1)
	for i := range p.Main {
		p.Main[i] = 1000 + i
	}
	for i := range p.Dist {
		p.Dist[i] = 5000 + i
	}
	for _, c := range []struct {
		t    api.Token
		want int
	}{{api.Token{Byte: 77}, 1077}, {api.Token{Kind: api.Copy, Len: 2, Dist: 1}, 1256 + 5000}, {api.Token{Kind: api.Copy, Len: 11, Dist: 10}, 1264 + 1 + 5006 + 2},
		{api.Token{Kind: api.Copy, Len: 257, Dist: 1 << 26}, 1283 + 5 + 5051 + 24}, {api.Token{Kind: api.Copy, Len: 258, Dist: 4}, 1284 + 5003},
		{api.Token{Kind: api.Repeat, Len: 2, Rep: 1}, 1314}, {api.Token{Kind: api.Repeat, Len: 257, Rep: 3}, 1285 + 87 + 27 + 5}} {
		if n, e := Token(p, c.t); n != c.want || e != api.OK {
			t.Errorf("%v: %d, %d", c.t, n, e)
		}
	}
	if n, _ := Token(Flat(8, 5), api.Token{Kind: api.Copy, Len: 11, Dist: 10}); n != 16 {
		t.Error("the example", n)
	}
	if n, e := Token(p, api.Token{Kind: api.Repeat, Len: 2, Rep: 4}); n != 0 || e != api.ErrToken {
		t.Error(n, e)
	}
}

func TestAll(t *testing.T) {
	p := Flat(8, 5)
	l := []api.Token{{Byte: 1}, {Kind: api.Copy, Len: 11, Dist: 10}, {Kind: api.Repeat, Len: 258}}
	if n, e := All(p, l); n != 8+16+8 || e != api.OK {
		t.Error(n, e)
	}
	if n, e := All(p, nil); n != 0 || e != api.OK {
		t.Error(n, e)
	}
	if n, e := All(p, append(l, api.Token{Kind: 9})); n != 0 || e != api.ErrToken {
		t.Error(n, e)
	}
}
