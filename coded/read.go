package coded

import (
	"gladstone/api"
	"gladstone/bitr"
	"gladstone/lens"
	"gladstone/slots"
	"gladstone/token"
	"gladstone/twolev"
)

const (
	rootMain = 10
	rootDist = 7
)

// fault is why bits are wrong.
type fault struct{ no api.Errno }

// told is why a panic came; one that tells no fault goes on.
func told(x any) api.Errno {
	f, ok := x.(fault)
	if !ok {
		panic(x)
	}
	return f.no
}

// must panics with an error: that bits lack is told so, all others are of the form.
func must(e api.Errno) {
	switch e {
	case api.OK:
	case api.ErrShort:
		panic(fault{api.ErrShort})
	default:
		panic(fault{api.ErrForm})
	}
}

// Tokens is the tokens of raw bytes together that s begins with.
func Tokens(s string, raw int) (l []api.Token, e api.Errno) {
	if raw < 1 || raw > api.BlockSize {
		return nil, api.ErrArg
	}
	defer func() {
		if x := recover(); x != nil {
			l, e = nil, told(x)
		}
	}()
	return read(bitr.New(s), raw), api.OK
}

// reader reads tokens by their tables; no table of distances: none has a code.
type reader struct {
	bits       *bitr.Reader
	main, dist *twolev.Table
}

func read(bits *bitr.Reader, raw int) []api.Token {
	r := &reader{bits: bits}
	r.main = r.table(api.MainSyms, rootMain)
	if r.take(1) == 1 {
		r.dist = r.table(api.DistSlots, rootDist)
	}
	var out []api.Token
	for raw > 0 {
		t := r.token()
		size := token.Size(t)
		if size > raw {
			must(api.ErrForm)
		}
		raw -= size
		out = append(out, t)
	}
	if left := bits.Left(); left >= 8 || bits.Peek(left) != 0 {
		must(api.ErrForm)
	}
	return out
}

func (r *reader) take(n int) int {
	x, e := r.bits.Take(n)
	must(e)
	return int(x)
}

func (r *reader) table(n, root int) *twolev.Table {
	l, e := lens.Read(r.bits, n)
	must(e)
	t, e := twolev.New(l, root, api.MaxCode)
	must(e)
	return t
}

func (r *reader) next(t *twolev.Table) int {
	sym, e := t.Next(r.bits)
	must(e)
	return sym
}

// token reads a token whole.
func (r *reader) token() api.Token {
	kind, b, rep, slot, e := token.Of(r.next(r.main))
	must(e)
	t := api.Token{Kind: kind, Byte: b, Rep: rep}
	if kind == api.Literal {
		return t
	}
	t.Len = r.number(slot, lenBits, slots.LenOf)
	if kind == api.Copy {
		if r.dist == nil {
			must(api.ErrForm)
		}
		t.Dist = r.number(r.next(r.dist), distBits, slots.DistOf)
	}
	return t
}

// number reads the extra bits of a slot.
func (r *reader) number(slot int, extra func(slot int) int, of func(slot, more int) (int, api.Errno)) int {
	n, e := of(slot, r.take(extra(slot)))
	must(e)
	return n
}

func lenBits(slot int) int {
	n, _ := slots.LenOf(slot, 0)
	_, extra, _, _ := slots.Len(n)
	return extra
}

func distBits(slot int) int {
	d, _ := slots.DistOf(slot, 0)
	_, extra, _, _ := slots.Dist(d)
	return extra
}
