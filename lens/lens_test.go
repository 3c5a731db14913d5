package lens_test

import (
	"math/rand"
	"slices"
	"testing"

	"gladstone/api"
	"gladstone/bitr"
	"gladstone/bitw"
	. "gladstone/lens"
	"gladstone/pmerge"
	"gladstone/runs"
)

func TestSizeOfTwo(t *testing.T) {
	if Size([]int{1, 1}) != 60 {
		t.Error(Size([]int{1, 1}))
	}
}

func TestBitsOfTwo(t *testing.T) {
	w := bitw.New()
	if e := Put(w, []int{1, 1}); e != api.OK {
		t.Fatal(e)
	}
	r := bitr.New(w.Bytes())
	if many, _ := r.Take(4); many != 14 {
		t.Error("how many", many)
	}
	for k := range 18 {
		want := uint64(0)
		if k == 17 {
			want = 1
		}
		if n, _ := r.Take(3); n != want {
			t.Error("length", k, n)
		}
	}
	if x, _ := r.Take(2); x != 0 || w.Len() != 60 {
		t.Error("codes")
	}
}

func TestHighestBitFirst(t *testing.T) {
	// Runs 0, 8, 7, 7: the lengths of 0, 7, 8 are 2, 1, 2, their codes 10, 0, 11.
	w := bitw.New()
	Put(w, []int{0, 8, 7, 7})
	r := bitr.New(w.Bytes())
	many, _ := r.Take(4)
	r.Skip(3 * (int(many) + 4))
	if many != 2 {
		t.Error("how many", many)
	}
	if x, _ := r.Take(6); x != 0b001101 {
		t.Errorf("codes %b", x)
	}
}

func TestPutRefuses(t *testing.T) {
	w := bitw.New()
	for _, c := range []struct {
		l []int
		e api.Errno
	}{{nil, api.ErrLimit}, {make([]int, 1025), api.ErrLimit}, {[]int{1, -1}, api.ErrRange}, {[]int{16}, api.ErrRange}, {append(make([]int, 1024), 99), api.ErrLimit}} {
		if e := Put(w, c.l); e != c.e || Size(c.l) != 0 {
			t.Error(len(c.l), e)
		}
	}
	if w.Len() != 0 || Put(nil, nil) != api.ErrArg {
		t.Error("something was written")
	}
	if Put(w, make([]int, 1024)) != api.OK {
		t.Error("1024 noughts")
	}
}

// head writes how many lengths of runs' symbols there are, and them.
func head(of ...uint64) *bitw.Writer {
	w := bitw.New()
	w.Put(uint64(len(of)-4), 4)
	for _, n := range of {
		w.Put(n, 3)
	}
	return w
}

func TestReadRefuses(t *testing.T) {
	bits := func(w *bitw.Writer, x uint64, n int) *bitw.Writer {
		w.Put(x, n)
		return w
	}
	for k, c := range []struct {
		w *bitw.Writer
		n int
		e api.Errno
	}{
		{bitw.New(), 1, api.ErrShort},
		{bits(bitw.New(), 255, 8), 3, api.ErrShort},
		{head(0, 0, 0, 0), 3, api.ErrNone},
		{head(1, 1, 1, 0), 3, api.ErrKraft},
		{head(0, 2, 0, 0), 3, api.ErrKraft},
		{bits(head(1, 0, 0, 1), 0xffff, 16), 5, api.ErrForm}, // 16 stands first
		{bits(head(0, 1, 0, 0), 1, 1), 3, api.ErrForm},       // no code
		{bits(head(0, 1, 0, 0), 0, 16), 2, api.ErrForm},      // three noughts for two
		{bits(head(0, 1, 0, 0), 0, 16), 1024, api.ErrShort},  // not enough of them
	} {
		r := bitr.New(c.w.Bytes())
		if l, e := Read(r, c.n); l != nil || e != c.e {
			t.Errorf("%d: %v, %d, not %d", k, l, e, c.e)
		}
	}
	for _, n := range []int{0, -1, 1025} {
		if _, e := Read(bitr.New("abc"), n); e != api.ErrArg {
			t.Error(n, e)
		}
	}
	if _, e := Read(nil, 1); e != api.ErrArg {
		t.Error("nil")
	}
}

func TestRunIsReadWhole(t *testing.T) {
	w := head(1, 0, 0, 1) // 16 bits, 0 is the symbol 0, 1 the symbol 16
	w.Put(1, 1)
	w.Align()
	s := w.Bytes()
	r := bitr.New(s)
	// 16 bits of head are followed by the code of 16, and More in what is left of the byte: whole.
	if _, e := Read(r, 5); e != api.ErrForm || r.At() != 19 {
		t.Error(e, r.At())
	}
	x := bitw.New() // the same, moved so that More lacks
	x.Put(0, 7)
	v := bitr.New(s)
	word, _ := v.Take(17)
	x.Put(word, 17)
	y := bitr.New(x.Bytes())
	y.Skip(7)
	if _, e := Read(y, 5); e != api.ErrShort {
		t.Error("More lacks:", e)
	}
}

func TestRound(t *testing.T) {
	rnd := rand.New(rand.NewSource(2))
	for range 500 {
		var l []int
		for len(l) == 0 || len(l) < 900 && rnd.Intn(30) > 0 {
			l = append(l, slices.Repeat([]int{rnd.Intn(16) * rnd.Intn(2)}, 1+rnd.Intn(1<<rnd.Intn(8)))...)
		}
		w := bitw.New()
		ahead := rnd.Intn(8)
		w.Put(0, ahead)
		if e := Put(w, l); e != api.OK || w.Len() != ahead+Size(l) {
			t.Fatal(e)
		}
		w.Put(5, 3)
		r := bitr.New(w.Bytes())
		r.Skip(ahead)
		got, e := Read(r, len(l))
		if e != api.OK || !slices.Equal(got, l) || r.Peek(3) != 5 {
			t.Fatal(l, got, e)
		}
		for k := range len(w.Bytes()) - 1 {
			short := bitr.New(w.Bytes()[:k])
			if short.Skip(ahead) != api.OK {
				continue
			}
			if _, e := Read(short, len(l)); e != api.ErrShort {
				t.Fatal(k, e)
			}
		}
	}
}

// TestLongestCodesOfRuns has lengths so unlike frequent that, without a limit, some codes of runs would be longer than seven bits.
func TestLongestCodesOfRuns(t *testing.T) {
	freq := make([]int, 19)
	var mixed []int // each length stands between two of another one
	for k, n := range []int{1, 1, 2, 3, 5, 8, 13, 21, 34, 55, 89} {
		for range n {
			mixed = append(mixed, k+1, 12)
		}
	}
	rows := runs.Pack(mixed)
	extra := 0
	for _, r := range rows {
		freq[r.Sym]++
		extra += runs.Extra(r.Sym)
	}
	free, _ := pmerge.Lengths(freq, 16)
	of, _ := pmerge.Lengths(freq, 7)
	if slices.Max(free) < 9 || slices.Max(of) != 7 {
		t.Fatal("the lengths of the test", free, of)
	}
	order := []int{16, 17, 18, 0, 8, 7, 9, 6, 10, 5, 11, 4, 12, 3, 13, 2, 14, 1, 15}
	many := 19
	for of[order[many-1]] == 0 {
		many--
	}
	if got, want := Size(mixed), 4+3*many+pmerge.Cost(freq, of)+extra; got != want {
		t.Error(got, want)
	}
	w := bitw.New()
	if e := Put(w, mixed); e != api.OK {
		t.Fatal(e)
	}
	if got, e := Read(bitr.New(w.Bytes()), len(mixed)); e != api.OK || !slices.Equal(got, mixed) {
		t.Error(got, e)
	}
}

func TestEndsOnAnyBytes(t *testing.T) {
	rnd := rand.New(rand.NewSource(3))
	for range 3000 {
		raw := make([]byte, rnd.Intn(40))
		rnd.Read(raw)
		n := 1 + rnd.Intn(1024)
		l, e := Read(bitr.New(string(raw)), n)
		if (e == api.OK) != (len(l) == n) {
			t.Fatal(len(l), e)
		}
	}
}
