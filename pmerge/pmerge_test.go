package pmerge_test

import (
	"math/rand"
	"slices"
	"testing"

	"gladstone/api"
	"gladstone/kraft"
	. "gladstone/pmerge"
)

func TestLengths(t *testing.T) {
	for _, c := range []struct {
		freq  []int
		limit int
		cost  int
	}{{[]int{1, 1, 2, 4}, 3, 14}, {[]int{1, 1, 2, 4}, 2, 16}, {[]int{0, 7, 0}, 16, 7}, {[]int{3, 0, 5}, 1, 8},
		{[]int{api.MaxFreq, api.MaxFreq}, 16, 2 * api.MaxFreq}} {
		l, e := Lengths(c.freq, c.limit)
		if e != api.OK || Cost(c.freq, l) != c.cost {
			t.Errorf("%v up to %d: %v, %d", c.freq, c.limit, l, e)
		}
	}
}

func TestRefuses(t *testing.T) {
	ones := slices.Repeat([]int{1}, 1025)
	for _, c := range []struct {
		freq  []int
		limit int
		e     api.Errno
	}{{[]int{1}, 0, api.ErrArg}, {ones, 17, api.ErrArg}, {[]int{1}, -1, api.ErrArg}, {ones, 16, api.ErrLimit},
		{[]int{0, -1}, 3, api.ErrRange}, {[]int{api.MaxFreq + 1}, 3, api.ErrRange}, {[]int{0, 0}, 3, api.ErrNone}, {nil, 3, api.ErrNone},
		{ones[:5], 2, api.ErrKraft}, {ones[:3], 1, api.ErrKraft}, {append(ones[:5:5], -1), 2, api.ErrRange}} {
		if l, e := Lengths(c.freq, c.limit); e != c.e || l != nil {
			t.Errorf("%d symbols up to %d: %d, not %d", len(c.freq), c.limit, e, c.e)
		}
	}
	if l, e := Lengths(ones[:1024], 10); e != api.OK || !slices.Equal(l, slices.Repeat([]int{10}, 1024)) {
		t.Error("1024 symbols up to 10")
	}
}

// least is the least cost of all whole lengths up to limit, by trying all.
func least(freq []int, limit, room, i int) int {
	if i == len(freq) {
		if room == 0 {
			return 0
		}
		return -1
	}
	best := -1
	for n := 1; n <= limit; n++ {
		if room < 1<<(limit-n) {
			continue
		}
		if c := least(freq, limit, room-1<<(limit-n), i+1); c >= 0 && (best < 0 || c+n*freq[i] < best) {
			best = c + n*freq[i]
		}
	}
	return best
}

func TestNoneCostLess(t *testing.T) {
	rnd := rand.New(rand.NewSource(7))
	for range 400 {
		limit := 1 + rnd.Intn(5)
		freq := make([]int, 2+rnd.Intn(min(6, 1<<limit-1)))
		for i := range freq {
			freq[i] = 1 + rnd.Intn(1<<rnd.Intn(8))
		}
		l, e := Lengths(freq, limit)
		if e != api.OK || Cost(freq, l) != least(freq, limit, 1<<limit, 0) {
			t.Fatalf("%v up to %d: %v, %d", freq, limit, l, e)
		}
	}
}

func TestLengthsMayBe(t *testing.T) {
	rnd := rand.New(rand.NewSource(8))
	for range 300 {
		freq := make([]int, 2+rnd.Intn(300))
		for i := range freq {
			freq[i] = rnd.Intn(3) * rnd.Intn(1<<rnd.Intn(30))
		}
		freq[0], freq[1] = 1, api.MaxFreq
		limit := 9 + rnd.Intn(8)
		l, e := Lengths(freq, limit)
		again, _ := Lengths(freq, limit)
		if e != api.OK || kraft.Check(l, limit) != api.OK || !slices.Equal(l, again) {
			t.Fatal(freq, limit, e)
		}
		for i := range freq {
			if (l[i] == 0) != (freq[i] == 0) {
				t.Fatal("a length of what does not occur")
			}
			for k := range freq {
				if l[i] > 0 && freq[k] > freq[i] && l[k] > l[i] {
					t.Fatal("the more frequent one has the longer code")
				}
			}
		}
	}
}

func TestCost(t *testing.T) {
	if Cost([]int{1, 2, 3}, []int{5, 6}) != 17 || Cost(nil, []int{1}) != 0 {
		t.Error("of the first ones")
	}
	if Cost([]int{1, 1, -1, api.MaxFreq + 1, 2, api.MaxFreq}, []int{-1, 17, 1, 1, 16, 1}) != 32+api.MaxFreq {
		t.Error("of what may not be")
	}
}
