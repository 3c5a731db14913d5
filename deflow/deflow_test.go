package deflow_test

import (
	"math/rand"
	"strings"
	"testing"

	"gladstone/api"
	. "gladstone/deflow"
	"gladstone/frame"
	"gladstone/unframe"
)

func text(rnd *rand.Rand, n, few int) string {
	b := make([]byte, n)
	for i := range b {
		b[i] = byte('a' + rnd.Intn(few))
	}
	return string(b)
}

func TestFinishAtOnce(t *testing.T) {
	w, e := New(api.Params{Log: 15})
	if e != api.OK {
		t.Fatal(e)
	}
	if s, e := w.Finish(); s != "GLD1\x0f\x00\x00\x00\x00\x00" || e != api.OK {
		t.Errorf("%q, %d", s, e)
	}
	for range 2 {
		a, e := w.Write("x")
		b, f := w.Flush()
		c, g := w.Finish()
		if a+b+c != "" || e != api.ErrState || f != api.ErrState || g != api.ErrState {
			t.Error(a, b, c, e, f, g)
		}
	}
}

func TestWhatIsReady(t *testing.T) {
	rnd := rand.New(rand.NewSource(1))
	w, _ := New(api.Params{Level: 0, Log: 15})
	for k, c := range []struct {
		write int // below 0: Flush
		want  int
	}{{0, 5}, {10, 0}, {1<<16 - 11, 0}, {1, 5 + 1<<16}, {-1, 0}, {7, 0}, {-1, 12}, {-1, 0}, {1<<17 + 9, 2 * (5 + 1<<16)}, {-1, 14}, {0, 0}, {1, 0}, {-1, 6}} {
		var s string
		var e api.Errno
		if c.write < 0 {
			s, e = w.Flush()
		} else {
			s, e = w.Write(text(rnd, c.write, 26))
		}
		if len(s) != c.want || e != api.OK {
			t.Error(k, len(s), e)
		}
	}
	if s, e := w.Finish(); len(s) != 5 || e != api.OK {
		t.Error(s, e)
	}
}

func TestAsCompress(t *testing.T) {
	rnd := rand.New(rand.NewSource(2))
	for level := range 10 {
		for _, n := range []int{0, 1, 1 << 16, 140000} {
			few := 1 + rnd.Intn(20)
			data := text(rnd, n, few)
			p := api.Params{Level: level, Log: 15 + rnd.Intn(3), Dict: text(rnd, rnd.Intn(2)*2000, few)}
			want, _ := frame.Compress(data, p)
			w, _ := New(p)
			var got strings.Builder
			for left := data; left != ""; {
				k := min(len(left), rnd.Intn(1<<(1+rnd.Intn(17))))
				s, e := w.Write(left[:k])
				if e != api.OK {
					t.Fatal(e)
				}
				got.WriteString(s)
				left = left[k:]
			}
			s, e := w.Finish()
			got.WriteString(s)
			if e != api.OK || got.String() != want {
				t.Fatal(level, n, e, got.Len(), len(want))
			}
		}
	}
}

// all writes data, flushing at these places, in parts of at most most bytes.
func all(t *testing.T, data string, flushes []int, most int, p api.Params, rnd *rand.Rand) string {
	w, _ := New(p)
	out, at := "", 0
	add := func(s string, e api.Errno) {
		if e != api.OK {
			t.Fatal(e)
		}
		out += s
	}
	for _, to := range append(flushes, len(data)) {
		for at < to {
			k := min(to-at, 1+rnd.Intn(most))
			add(w.Write(data[at : at+k]))
			at += k
		}
		if to < len(data) || len(flushes) > 0 && flushes[len(flushes)-1] == to {
			add(w.Flush())
		}
	}
	add(w.Finish())
	return out
}

func TestFlushes(t *testing.T) {
	rnd := rand.New(rand.NewSource(3))
	for level := range 10 {
		few := 1 + rnd.Intn(20)
		data := text(rnd, 100000, few)
		p := api.Params{Level: level, Log: 15, Dict: "some words"}
		flushes := []int{5, 5, 300, 70000, 70010}
		a, b := all(t, data, flushes, 200, p, rnd), all(t, data, flushes, 60000, p, rnd)
		if a != b {
			t.Fatal(level, "the parts are to be seen")
		}
		if got, e := unframe.Decompress(a, p.Dict, len(data)); got != data || e != api.OK {
			t.Fatal(level, e)
		}
	}
}

func TestRefuses(t *testing.T) {
	for _, c := range []struct {
		p api.Params
		e api.Errno
	}{{api.Params{Level: 10, Log: 1}, api.ErrRange}, {api.Params{Log: 27}, api.ErrWindow}, {api.Params{Log: 15, Dict: strings.Repeat("d", 1<<15+1)}, api.ErrDict}} {
		if w, e := New(c.p); w != nil || e != c.e {
			t.Error(c.p.Level, e)
		}
	}
	var w *Writer
	a, e := w.Write("x")
	b, f := w.Flush()
	c, g := w.Finish()
	if a+b+c != "" || e != api.ErrArg || f != api.ErrArg || g != api.ErrArg {
		t.Error("nil")
	}
}

func TestTooManyBytes(t *testing.T) {
	if testing.Short() {
		t.Skip("two thousand million bytes are written")
	}
	w, _ := New(api.Params{Log: 15})
	part := strings.Repeat("x", 1<<26)
	for k := range 32 {
		if k == 31 {
			part = part[:len(part)-3]
		}
		if _, e := w.Write(part); e != api.OK {
			t.Fatal(k, e)
		}
	}
	if s, e := w.Write("abc"); s != "" || e != api.ErrLimit {
		t.Error(len(s), e)
	}
	if s, e := w.Write("ab"); s != "" || e != api.OK {
		t.Error(len(s), e)
	}
	if s, e := w.Write(""); s != "" || e != api.OK {
		t.Error(len(s), e)
	}
	if s, e := w.Write("a"); s != "" || e != api.ErrLimit {
		t.Error(len(s), e)
	}
	if s, e := w.Finish(); len(s) != 5+1<<16-1+5 || e != api.OK {
		t.Error(len(s), e)
	}
}
