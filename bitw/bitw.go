// Package bitw is layer 1: bits that are written, the lowest one of each byte first.
package bitw

import (
	"gladstone/api"
)

// Writer holds bits: whole bytes, and what is no whole byte yet.
type Writer struct {
	whole []byte
	rest  uint64
	n     int // how many bits rest has: 0 to 7 between calls
}

// New is a writer without bits.
func New() *Writer { return &Writer{} }

// Put lays the lowest n bits of x behind all, the lowest one first.
func (w *Writer) Put(x uint64, n int) api.Errno {
	if w == nil {
		return api.ErrArg
	}
	if n < 0 || n > api.MaxBits || x>>n != 0 {
		return api.ErrRange
	}
	w.rest |= x << w.n
	w.n += n
	w.handOn(func(b byte) { w.whole = append(w.whole, b) })
	return api.OK
}

// handOn gives each whole byte of the rest to take, the first one first.
func (w *Writer) handOn(take func(b byte)) {
	for w.n >= 8 {
		take(byte(w.rest))
		w.rest >>= 8
		w.n -= 8
	}
}

// Align lays bits 0 behind all, until there are eights of them, and tells how many.
func (w *Writer) Align() int {
	if w == nil {
		return 0
	}
	lack := (8 - w.n) % 8
	w.Put(0, lack)
	return lack
}

// Len is how many bits there are.
func (w *Writer) Len() int {
	if w == nil {
		return 0
	}
	return 8*len(w.whole) + w.n
}

// Bytes is all bits, eight to a byte; what lacks of the last one is 0.
func (w *Writer) Bytes() string {
	if w == nil {
		return ""
	}
	if w.n == 0 {
		return string(w.whole)
	}
	return string(w.whole) + string([]byte{byte(w.rest)})
}
