package inflow_test

import (
	"math/rand"
	"strings"
	"testing"

	"gladstone/adler"
	"gladstone/api"
	"gladstone/coded"
	"gladstone/deflow"
	"gladstone/frame"
	"gladstone/heads"
	. "gladstone/inflow"
	"gladstone/unframe"
)

func text(rnd *rand.Rand, n, few int) string {
	b := make([]byte, n)
	for i := range b {
		b[i] = byte('a' + rnd.Intn(few))
	}
	return string(b)
}

// asPrefix hands s in parts of at most most bytes, and holds all that is told against chapter 35.
func asPrefix(t *testing.T, s, dict string, limit, most int, rnd *rand.Rand) {
	t.Helper()
	r := New(dict, limit)
	var out strings.Builder
	for at := 0; at < len(s); {
		k := min(len(s)-at, 1+rnd.Intn(most))
		told, e := r.Write(s[at : at+k])
		at += k
		out.WriteString(told)
		if most < 200 && len(s) < 3000 || at == len(s) {
			want, f := unframe.Prefix(s[:at], dict, max(limit, 0))
			state := api.Bad
			if f == api.ErrShort {
				state, f = api.More, api.OK
			} else if f == api.OK {
				state = api.Done
			}
			if out.String() != want || e != f || r.State() != state {
				t.Fatalf("of %d bytes: %d told, %d wanted; %d, %d; %d", at, out.Len(), len(want), e, f, r.State())
			}
			finish := f
			if state == api.More {
				finish = api.ErrShort
			}
			if r.Finish() != finish {
				t.Fatal("Finish", r.Finish(), finish)
			}
		}
		if e != api.OK {
			for range 2 {
				if told, again := r.Write("more"); told != "" || again != e {
					t.Fatal("behind an error", told, again)
				}
			}
		}
	}
}

func flushed(rnd *rand.Rand, p api.Params, n, few int) string {
	w, _ := deflow.New(p)
	out := ""
	for range n {
		a, _ := w.Write(text(rnd, rnd.Intn(90), few))
		b, _ := w.Flush()
		out += a + b
	}
	c, _ := w.Finish()
	return out + c
}

func TestAsPrefix(t *testing.T) {
	rnd := rand.New(rand.NewSource(1))
	for k := range 150 {
		few := 1 + rnd.Intn(10)
		dict := text(rnd, rnd.Intn(2)*50, few)
		s := flushed(rnd, api.Params{Level: rnd.Intn(10), Log: 15, Dict: dict}, rnd.Intn(6), few)
		limit := api.NoLimit
		switch k % 6 {
		case 1:
			b := []byte(s)
			b[rnd.Intn(len(b))] ^= 1 << rnd.Intn(8)
			s = string(b)
		case 2:
			s = s[:rnd.Intn(len(s))]
		case 3:
			s += text(rnd, 1+rnd.Intn(5), 5)
		case 4:
			limit = rnd.Intn(300) - 5
		case 5:
			dict = text(rnd, rnd.Intn(2)*50, few)
		}
		asPrefix(t, s, dict, limit, 1, rnd)
		asPrefix(t, s, dict, limit, 40, rnd)
		asPrefix(t, s, dict, limit, 1<<20, rnd)
	}
}

func TestLongFrames(t *testing.T) {
	rnd := rand.New(rand.NewSource(2))
	for level := range 10 {
		data := text(rnd, 150000, 1+rnd.Intn(26))
		s, _ := frame.Compress(data, api.Params{Level: level, Log: 15 + level})
		asPrefix(t, s, "", api.NoLimit, 1, rnd)
		asPrefix(t, s, "", len(data)-1, 5000, rnd)
		asPrefix(t, s[:len(s)-1], "", len(data), 1<<20, rnd)
	}
}

func TestStates(t *testing.T) {
	s, _ := frame.Compress("some bytes", api.Params{Log: 15})
	r := New("", 10)
	if r.State() != api.More || r.Finish() != api.ErrShort {
		t.Error("at the beginning")
	}
	if out, e := r.Write(""); out != "" || e != api.OK {
		t.Error("no bytes", e)
	}
	if out, e := r.Write(s); out != "some bytes" || e != api.OK || r.State() != api.Done || r.Finish() != api.OK {
		t.Error("a whole frame", e)
	}
	if out, e := r.Write(""); out != "" || e != api.OK || r.State() != api.Done {
		t.Error("no bytes behind it", e)
	}
	if out, e := r.Write("x"); out != "" || e != api.ErrForm || r.State() != api.Bad || r.Finish() != api.ErrForm {
		t.Error("a byte behind it", e)
	}
	low := New("", -5)
	if out, e := low.Write(s); out != "" || e != api.ErrLimit || low.State() != api.Bad {
		t.Error("a limit below 0", e)
	}
	both := New("", 99)
	if out, e := both.Write(s + "x"); out != "some bytes" || e != api.ErrForm {
		t.Error("bytes, and an error", out, e)
	}
}

func TestEdges(t *testing.T) {
	one, _ := frame.Compress("x", api.Params{Log: 15})
	for _, limit := range []int{0, -1} {
		r := New("", limit)
		if out, e := r.Write(one); out != "" || e != api.ErrLimit {
			t.Error(limit, out, e)
		}
	}
	full := strings.Repeat("full", 1<<13)
	s, _ := frame.Compress("some bytes", api.Params{Log: 15, Dict: full})
	r := New(full, 10)
	if out, e := r.Write(s); out != "some bytes" || e != api.OK || r.Finish() != api.OK {
		t.Error("a full dictionary", out, e)
	}
	long := full + "x"
	sum := adler.Sum(long)
	head, _ := heads.Put(api.Header{Log: 15, Dict: true, DictID: sum})
	if out, e := New(long, 10).Write(head); out != "" || e != api.ErrDict {
		t.Error("too long a dictionary", e)
	}
}

// TestWindow has copies from the window's end, and from past it.
func TestWindow(t *testing.T) {
	rnd := rand.New(rand.NewSource(3))
	first := text(rnd, 1<<15, 26)
	for d, want := range map[int]api.Errno{1 << 15: api.OK, 1<<15 + 1: api.ErrBlock} {
		w, _ := deflow.New(api.Params{Log: 15})
		a, _ := w.Write("y" + first)
		b, _ := w.Flush()
		l, _ := coded.Put([]api.Token{{Kind: api.Copy, Len: 100, Dist: d}})
		h, _ := heads.PutBlock(api.Block{Kind: api.BlockCoded, Raw: 100, Coded: len(l)})
		r := New("", api.NoLimit)
		r.Write(a + b)
		out, e := r.Write(h + l)
		if e != want || e == api.OK && out != first[:100] || e != api.OK && out != "" {
			t.Error(d, e)
		}
	}
}

func TestNil(t *testing.T) {
	var r *Reader
	if out, e := r.Write("x"); out != "" || e != api.ErrArg || r.Finish() != api.ErrArg || r.State() != api.Bad {
		t.Error("nil")
	}
}
