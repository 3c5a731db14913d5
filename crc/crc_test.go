package crc_test

import (
	"hash/crc32"
	"strings"
	"testing"

	. "gladstone/crc"
)

func slow(sum uint32, s string) uint32 {
	c := ^sum
	for i := range len(s) {
		c ^= uint32(s[i])
		for range 8 {
			odd := c % 2
			c /= 2
			if odd == 1 {
				c ^= 3988292384
			}
		}
	}
	return ^c
}

func TestSum(t *testing.T) {
	if Sum("123456789") != 3421780262 || Sum("") != 0 {
		t.Error(Sum("123456789"), Sum(""))
	}
	for _, s := range []string{"a", "\x00", "\x00\x00", "\xff", strings.Repeat("gladstone", 5000)} {
		if Sum(s) != crc32.ChecksumIEEE([]byte(s)) {
			t.Errorf("%q", s[:1])
		}
	}
}

func TestAdd(t *testing.T) {
	rows := []string{"", "a", "abc", strings.Repeat("\x00\xff", 300)}
	for _, s := range rows {
		for _, u := range rows {
			if Add(Sum(s), u) != Sum(s+u) {
				t.Errorf("Add of %d and %d bytes", len(s), len(u))
			}
		}
		for _, sum := range []uint32{0, 1, 1<<32 - 1, 3988292384} {
			if Add(sum, s) != slow(sum, s) {
				t.Errorf("Add(%d, %d bytes)", sum, len(s))
			}
		}
	}
}

func TestOneByteTurned(t *testing.T) {
	row := []byte("a row of some bytes")
	for i := range row {
		seen := map[uint32]int{}
		for b := range 256 {
			row[i] = byte(b)
			seen[Sum(string(row))]++
		}
		if len(seen) != 256 {
			t.Fatalf("byte %d: %d sums", i, len(seen))
		}
	}
}
