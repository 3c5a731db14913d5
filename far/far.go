// Package far finds long rows of bytes far back: of each place of a block the latest place of a history at which the same eight bytes begin. It goes over the history once, and keeps no more of it than the block may ask for.
package far

import (
	"math/bits"

	"gladstone/api"
)

const (
	row      = 8
	mostHist = 1 << 27
	mostRows = 1 << 18 // of a block so many rows are looked for
	factor   = 0x9e3779b97f4a7c15
)

// Finder is a table of the block's rows, and of each the latest place of the history where it stands.
type Finder struct {
	hist, block string
	bits        int
	rows        []uint64
	latest      []int32 // a place from 1 on, or one of these
}

const (
	free = 0  // no row is here
	none = -1 // the row stands nowhere
)

// New is a finder of block behind hist.
func New(hist, block string) *Finder {
	f := &Finder{hist: hist, block: block}
	if len(hist) < row || len(block) < row || len(hist) > mostHist {
		return f
	}
	rows := min(len(block)-row+1, mostRows)
	f.bits = bits.Len(uint(2 * rows))
	f.rows, f.latest = make([]uint64, 1<<f.bits), make([]int32, 1<<f.bits)
	// Most rows of the history are none of the block's: few bits are enough to know that.
	wide := f.bits + 5
	asked := make([]uint64, 1<<wide/64+1)
	for i := range rows {
		x := word(block, i)
		sign := x * factor >> (64 - wide)
		asked[sign/64] |= 1 << (sign % 64)
		slot := f.slot(x)
		f.rows[slot], f.latest[slot] = x, none
	}
	for k := 0; k+row <= len(hist); k++ {
		x := word(hist, k)
		sign := x * factor >> (64 - wide)
		if asked[sign/64]>>(sign%64)&1 == 1 {
			if slot := f.slot(x); f.latest[slot] != free {
				f.latest[slot] = int32(k + 1)
			}
		}
	}
	return f
}

// slot is where a row is, or may be laid.
func (f *Finder) slot(x uint64) int {
	slot := int(x * factor >> (64 - f.bits))
	for f.latest[slot] != free && f.rows[slot] != x {
		slot = (slot + 1) % len(f.rows)
	}
	return slot
}

// word is the row at a place as a number.
func word(s string, i int) uint64 {
	b := s[i : i+row]
	return uint64(b[0]) | uint64(b[1])<<8 | uint64(b[2])<<16 | uint64(b[3])<<24 |
		uint64(b[4])<<32 | uint64(b[5])<<40 | uint64(b[6])<<48 | uint64(b[7])<<56
}

// At is a source of the block's place i in the history, at most window back; of length 0, if none is known.
func (f *Finder) At(i, window int) api.Match {
	if f == nil || f.latest == nil || i < 0 || i > len(f.block)-row {
		return api.Match{}
	}
	place := int(f.latest[f.slot(word(f.block, i))])
	d := len(f.hist) + i + 1 - place
	if place == free || place == none || d > window {
		return api.Match{}
	}
	return api.Match{Len: Shared(f.hist, f.block, i, d), Dist: d}
}

// Shared is how many bytes from the block's place i on are those that stand d ahead of them, as many as a copy has at most; 0, if d is not 1 to how many are ahead.
func Shared(hist, block string, i, d int) int {
	if i < 0 || i >= len(block) || d < 1 || d > len(hist)+i {
		return 0
	}
	most := min(api.MaxLen, len(block)-i)
	n, old := 0, i-d
	if old < 0 {
		n = alike(hist[len(hist)+old:], block[i:], min(most, -old))
		if n < -old {
			return n
		}
	}
	return n + alike(block[old+n:], block[i+n:], most-n)
}

// alike is how many bytes a and b share, most at most.
func alike(a, b string, most int) int {
	n := 0
	for n < most && n < len(a) && n < len(b) && a[n] == b[n] {
		n++
	}
	return n
}

// Tail is how many of the last bytes of a history are looked at closely for a block of n bytes.
func Tail(hist string, n int) int {
	return min(len(hist), min(max(32*n, 1<<12), 1<<16))
}
