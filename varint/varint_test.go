package varint_test

import (
	"math"
	"testing"

	"gladstone/api"
	. "gladstone/varint"
)

func TestPut(t *testing.T) {
	for _, c := range []struct {
		n int
		s string
	}{{0, "\x00"}, {1, "\x01"}, {127, "\x7f"}, {128, "\x80\x01"}, {300, "\xac\x02"}, {16383, "\xff\x7f"},
		{16384, "\x80\x80\x01"}, {1<<32 - 1, "\xff\xff\xff\xff\x0f"}} {
		if s, e := Put(c.n); s != c.s || e != api.OK {
			t.Errorf("Put(%d): %q, %d", c.n, s, e)
		}
		if Size(c.n) != len(c.s) {
			t.Errorf("Size(%d): %d", c.n, Size(c.n))
		}
		if n, left, e := Read(c.s + "behind"); n != c.n || left != "behind" || e != api.OK {
			t.Errorf("Read(%q): %d, %q, %d", c.s, n, left, e)
		}
	}
}

func TestPutRefuses(t *testing.T) {
	for _, n := range []int{-1, 1 << 32, math.MaxInt, math.MinInt} {
		if s, e := Put(n); s != "" || e != api.ErrRange || Size(n) != 0 {
			t.Errorf("Put(%d): %q, %d", n, s, e)
		}
	}
}

func TestReadRefuses(t *testing.T) {
	for _, c := range []struct {
		s string
		e api.Errno
	}{{"", api.ErrShort}, {"\x80", api.ErrShort}, {"\xff\xff\xff\xff", api.ErrShort}, {"\x80\x80\x80\x80\x80", api.ErrForm},
		{"\xff\xff\xff\xff\xff\x01", api.ErrForm}, {"\x80\x00", api.ErrForm}, {"\xff\x80\x00", api.ErrForm},
		{"\xff\xff\xff\xff\x10", api.ErrForm}, {"\xff\xff\xff\xff\x7f", api.ErrForm}, {"\x80\x80\x80\x80\x00", api.ErrForm}} {
		if n, left, e := Read(c.s); n != 0 || left != "" || e != c.e {
			t.Errorf("Read(%q): %d, %q, %d", c.s, n, left, e)
		}
	}
}

func TestRound(t *testing.T) {
	for n := 1; n < 1<<32; n += n/9 + 1 {
		s, e := Put(n)
		m, left, f := Read(s)
		if e != api.OK || f != api.OK || m != n || left != "" || len(s) != Size(n) {
			t.Fatal(n)
		}
		for k := range len(s) {
			if _, _, e := Read(s[:k]); e != api.ErrShort {
				t.Fatal(n, k, e)
			}
		}
	}
}
