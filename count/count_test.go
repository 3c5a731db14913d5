package count_test

import (
	"slices"
	"testing"

	"gladstone/api"
	. "gladstone/count"
	"gladstone/kraft"
	"gladstone/pmerge"
	"gladstone/price"
)

func some() []api.Token {
	return []api.Token{{Byte: 97}, {Byte: 97}, {Byte: 98}, {Kind: api.Copy, Len: 3, Dist: 6}, {Kind: api.Copy, Len: 258, Dist: 5},
		{Kind: api.Copy, Len: 3, Dist: 1 << 26}, {Kind: api.Repeat, Len: 2, Rep: 1}}
}

func TestFreqs(t *testing.T) {
	main, dist, e := Freqs(some())
	wantMain, wantDist := make([]int, 401), make([]int, 52)
	wantMain[97], wantMain[98], wantMain[257], wantMain[284], wantMain[314] = 2, 1, 2, 1, 1
	wantDist[4], wantDist[51] = 2, 1
	if e != api.OK || !slices.Equal(main, wantMain) || !slices.Equal(dist, wantDist) {
		t.Error(main, dist, e)
	}
	main, dist, e = Freqs(nil)
	if e != api.OK || len(main) != 401 || len(dist) != 52 || slices.Max(main) != 0 || slices.Max(dist) != 0 {
		t.Error("of no tokens")
	}
}

func TestRefuses(t *testing.T) {
	for _, bad := range []api.Token{{Kind: 3}, {Byte: 256}, {Kind: api.Copy, Len: 2}, {Kind: api.Repeat, Len: 1}} {
		l := append(some(), bad)
		if a, b, e := Freqs(l); a != nil || b != nil || e != api.ErrToken {
			t.Error("Freqs", bad, e)
		}
		if a, b, e := Tables(l); a != nil || b != nil || e != api.ErrToken {
			t.Error("Tables", bad, e)
		}
	}
}

func TestTables(t *testing.T) {
	main, dist, e := Tables(some())
	fm, fd, _ := Freqs(some())
	lm, _ := pmerge.Lengths(fm, 15)
	ld, _ := pmerge.Lengths(fd, 15)
	if e != api.OK || kraft.Check(main, 15) != api.OK || !slices.Equal(main, lm) || !slices.Equal(dist, ld) {
		t.Error(main, dist, e)
	}
	main, dist, e = Tables([]api.Token{{Byte: 97}, {Byte: 97}, {Byte: 97}})
	if e != api.OK || main[97] != 1 || kraft.Used(main) != 1 || len(dist) != 52 || kraft.Used(dist) != 0 {
		t.Error("one symbol", main, dist)
	}
	main, dist, e = Tables(nil)
	if e != api.OK || len(main) != 401 || len(dist) != 52 || kraft.Used(main)+kraft.Used(dist) != 0 {
		t.Error("no tokens")
	}
}

func TestPrices(t *testing.T) {
	p := Prices([]int{0, 1, 15, 16, -1, 7}, append(slices.Repeat([]int{3}, 52), 9, 9))
	if price.Check(p) != api.OK || !slices.Equal(p.Main[:7], []int{16, 1, 15, 16, 16, 7, 16}) || p.Main[400] != 16 || !slices.Equal(p.Dist, slices.Repeat([]int{3}, 52)) {
		t.Error(p)
	}
	if p := Prices(nil, nil); price.Check(p) != api.OK || p.Main[0] != 16 || p.Dist[51] != 16 {
		t.Error("of nothing", p)
	}
}
