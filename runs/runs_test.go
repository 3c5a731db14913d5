package runs_test

import (
	"math/rand"
	"slices"
	"testing"

	"gladstone/api"
	. "gladstone/runs"
)

func TestExtra(t *testing.T) {
	for sym, want := range map[int]int{-1: 0, 0: 0, 15: 0, 16: 2, 17: 3, 18: 7, 19: 0, 1 << 40: 0} {
		if Extra(sym) != want {
			t.Error(sym, Extra(sym))
		}
	}
}

func TestPack(t *testing.T) {
	zeros := func(n int) []int { return make([]int, n) }
	row := func(n, length int) []int { return slices.Repeat([]int{length}, n) }
	for _, c := range []struct {
		l    []int
		want []api.Run
	}{
		{nil, nil},
		{row(4, 5), []api.Run{{Sym: 5}, {Sym: 16}}},
		{row(3, 5), []api.Run{{Sym: 5}, {Sym: 5}, {Sym: 5}}},
		{row(7, 5), []api.Run{{Sym: 5}, {Sym: 16, More: 3}}},
		{row(8, 5), []api.Run{{Sym: 5}, {Sym: 16, More: 3}, {Sym: 5}}},
		{row(10, 15), []api.Run{{Sym: 15}, {Sym: 16, More: 3}, {Sym: 16}}},
		{zeros(2), []api.Run{{}, {}}},
		{zeros(3), []api.Run{{Sym: 17}}},
		{zeros(10), []api.Run{{Sym: 17, More: 7}}},
		{zeros(11), []api.Run{{Sym: 18}}},
		{zeros(138), []api.Run{{Sym: 18, More: 127}}},
		{zeros(139), []api.Run{{Sym: 18, More: 127}, {}}},
		{zeros(149), []api.Run{{Sym: 18, More: 127}, {Sym: 18}}},
		{append(zeros(3), 1, 1, 1, 1), []api.Run{{Sym: 17}, {Sym: 1}, {Sym: 16}}},
		{[]int{0, -1}, nil},
		{[]int{0, 16}, nil},
	} {
		if got := Pack(c.l); !slices.Equal(got, c.want) {
			t.Errorf("Pack(%v): %v", c.l, got)
		}
	}
}

func TestUnpack(t *testing.T) {
	for _, c := range []struct {
		l    []api.Run
		n    int
		want []int
		e    api.Errno
	}{
		{nil, 0, nil, api.OK},
		{[]api.Run{{Sym: 16}}, 3, []int{0, 0, 0}, api.OK},
		{[]api.Run{{Sym: 7}, {Sym: 16, More: 1}, {Sym: 17}}, 8, []int{7, 7, 7, 7, 7, 0, 0, 0}, api.OK},
		{[]api.Run{{Sym: 7}, {Sym: 17}, {Sym: 16}}, 7, []int{7, 0, 0, 0, 0, 0, 0}, api.OK},
		{[]api.Run{{Sym: 18, More: 127}}, 138, make([]int, 138), api.OK},
		{nil, -1, nil, api.ErrArg},
		{[]api.Run{{Sym: 19}}, 1025, nil, api.ErrArg},
		{[]api.Run{{Sym: 19}}, 3, nil, api.ErrRange},
		{[]api.Run{{Sym: -1}}, 3, nil, api.ErrRange},
		{[]api.Run{{Sym: 3, More: 1}}, 3, nil, api.ErrRange},
		{[]api.Run{{Sym: 3, More: -1}}, 3, nil, api.ErrRange},
		{[]api.Run{{Sym: 16, More: 4}}, 7, nil, api.ErrRange},
		{[]api.Run{{Sym: 17, More: 8}}, 11, nil, api.ErrRange},
		{[]api.Run{{Sym: 18, More: 128}}, 139, nil, api.ErrRange},
		{[]api.Run{{Sym: 3}, {Sym: 3}, {Sym: 99}}, 1, nil, api.ErrForm},
		{[]api.Run{{Sym: 99}, {Sym: 3}, {Sym: 3}}, 1, nil, api.ErrRange},
		{[]api.Run{{Sym: 17}}, 2, nil, api.ErrForm},
		{[]api.Run{{Sym: 17}}, 4, nil, api.ErrShort},
		{nil, 1, nil, api.ErrShort},
	} {
		if got, e := Unpack(c.l, c.n); !slices.Equal(got, c.want) || e != c.e {
			t.Errorf("Unpack(%v, %d): %v, %d", c.l, c.n, got, e)
		}
	}
}

func TestRound(t *testing.T) {
	rnd := rand.New(rand.NewSource(1))
	for range 500 {
		var l []int
		for len(l) < 800 && rnd.Intn(20) > 0 {
			l = append(l, slices.Repeat([]int{rnd.Intn(16) * rnd.Intn(2)}, 1+rnd.Intn(1<<rnd.Intn(9)))...)
		}
		l = l[:min(len(l), 1024)]
		if got, e := Unpack(Pack(l), len(l)); e != api.OK || !slices.Equal(got, l) {
			t.Fatal(l, e)
		}
	}
}
