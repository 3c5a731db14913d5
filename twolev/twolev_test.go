package twolev_test

import (
	"math/rand"
	"testing"

	"gladstone/api"
	"gladstone/bitr"
	"gladstone/canon"
	"gladstone/flat"
	"gladstone/pmerge"
	. "gladstone/twolev"
)

func TestNew(t *testing.T) {
	for _, c := range []struct {
		l           []int
		root, limit int
		size        int
		e           api.Errno
	}{
		{[]int{1, 2, 3, 3}, 1, 3, 6, api.OK},
		{[]int{1, 2, 3, 3}, 2, 3, 6, api.OK},
		{[]int{1, 2, 3, 3}, 3, 3, 8, api.OK},
		{[]int{1, 2, 3, 3}, 1, 15, 2 + 1<<14, api.OK},
		{[]int{3, 3, 3, 3, 3, 3, 3, 3}, 2, 3, 12, api.OK},
		{[]int{0, 1}, 2, 5, 4, api.OK},
		{[]int{0, 1}, 1, 1, 2, api.OK},
		{[]int{1, 1}, 15, 15, 1 << 15, api.OK},
		{[]int{1, 1}, 0, 3, 0, api.ErrArg},
		{[]int{1, 1}, 4, 3, 0, api.ErrArg},
		{[]int{1, 1}, 1, 0, 0, api.ErrArg},
		{[]int{1, 1}, 1, 16, 0, api.ErrArg},
		{make([]int, 1025), 1, 3, 0, api.ErrLimit},
		{[]int{1, 2, 3, 3}, 1, 2, 0, api.ErrRange},
		{nil, 1, 2, 0, api.ErrNone},
		{[]int{1, 2}, 1, 2, 0, api.ErrKraft},
	} {
		tab, e := New(c.l, c.root, c.limit)
		if e != c.e || (tab == nil) != (e != api.OK) || tab.Size() != c.size {
			t.Errorf("New(%d lengths, %d, %d): %d entries, %d", len(c.l), c.root, c.limit, tab.Size(), e)
		}
	}
}

func TestNil(t *testing.T) {
	var none *Table
	tab, _ := New([]int{1, 1}, 1, 1)
	if s, e := none.Next(bitr.New("a")); s != 0 || e != api.ErrArg || none.Size() != 0 {
		t.Error("nil table")
	}
	if s, e := tab.Next(nil); s != 0 || e != api.ErrArg {
		t.Error("nil reader")
	}
}

// longerHeads is how many rows of root bits longer codes begin with.
func longerHeads(l []int, root int) int {
	codes, _ := canon.Codes(l)
	heads := map[int]int{}
	for s, n := range l {
		if n > root {
			heads[codes[s]>>(n-root)]++
		}
	}
	return len(heads)
}

func TestAsFlat(t *testing.T) {
	rnd := rand.New(rand.NewSource(6))
	for range 300 {
		freq := make([]int, 1+rnd.Intn(80))
		for i := range freq {
			freq[i] = rnd.Intn(1 << rnd.Intn(16))
		}
		freq[0] = 1
		limit := 7 + rnd.Intn(9)
		root := 1 + rnd.Intn(limit)
		l, _ := pmerge.Lengths(freq, limit)
		two, e := New(l, root, limit)
		one, f := flat.New(l, limit)
		if e != api.OK || f != api.OK {
			t.Fatal(e, f)
		}
		if two.Size() != 1<<root+longerHeads(l, root)<<(limit-root) {
			t.Fatal("Size", two.Size())
		}
		raw := make([]byte, rnd.Intn(12))
		rnd.Read(raw)
		a, b := bitr.New(string(raw)), bitr.New(string(raw))
		for {
			x, e := two.Next(a)
			y, f := one.Next(b)
			if x != y || e != f || a.At() != b.At() {
				t.Fatal(x, y, e, f)
			}
			if e != api.OK {
				break
			}
		}
	}
}
