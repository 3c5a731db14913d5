package whole

import (
	"reflect"
	"slices"
	"testing"

	"gladstone/api"
	"gladstone/bittree"
	"gladstone/bitw"
	"gladstone/canon"
	"gladstone/coded"
	"gladstone/count"
	"gladstone/denote"
	"gladstone/flat"
	"gladstone/grams"
	"gladstone/ilog"
	"gladstone/kraft"
	"gladstone/lcp"
	"gladstone/lens"
	"gladstone/mtf"
	"gladstone/multi"
	"gladstone/pmerge"
	"gladstone/price"
	"gladstone/prob"
	"gladstone/ranger"
	"gladstone/runs"
	"gladstone/slow"
	"gladstone/spread"
	"gladstone/suffix"
	"gladstone/tally"
	"gladstone/tans"
	"gladstone/twolev"
	"gladstone/weight"
	"gladstone/zeros"
)

// handed is lists that are handed in.
type handed struct {
	lens, freq, norm []int
	bits             []bool
	chances          []int
	runs             []api.Run
	floats           []float64
	hist             []byte
	tokens           []api.Token
	texts            []string
	prices           api.Prices
}

func lists() handed {
	return handed{
		lens: []int{2, 1, 2}, freq: []int{3, 1, 4, 1, 5}, norm: []int{16, 8, 8}, bits: []bool{true, false, true}, chances: []int{9, 2000, 1024},
		runs: []api.Run{{Sym: 1}, {Sym: 17, More: 2}}, floats: []float64{1.5, 2}, hist: append(make([]byte, 0, 99), "hist"...),
		tokens: []api.Token{{Byte: 97}, {Kind: api.Copy, Len: 3, Dist: 2}, {Kind: api.Repeat, Len: 2}}, texts: []string{"abab", "", "abc"}, prices: price.Flat(5, 6),
	}
}

// TestWhatIsHandedInStays is R4: the calls change nothing of it, nor does who writes to what they handed out; and R5: they answer the same again.
func TestWhatIsHandedInStays(t *testing.T) {
	order := suffix.Sort("banana")
	for k, call := range []func(h handed) []any{
		func(h handed) []any {
			return []any{kraft.Used(h.lens), kraft.Sum(h.lens, 3), kraft.Check(h.lens, 3), kraft.Whole(h.lens, 2)}
		},
		func(h handed) []any { l, e := pmerge.Lengths(h.freq, 4); return []any{l, e, pmerge.Cost(h.freq, l)} },
		func(h handed) []any { l, e := canon.Codes(h.lens); return []any{l, e, canon.Order(h.lens)} },
		func(h handed) []any {
			b, e := slow.Encode(h.lens, []int{0, 1, 2})
			s, n, f := slow.Decode(h.lens, h.bits)
			return []any{b, e, s, n, f}
		},
		func(h handed) []any { a, e := flat.New(h.lens, 3); return []any{a.Size(), e} },
		func(h handed) []any { a, e := twolev.New(h.lens, 1, 3); return []any{a.Size(), e} },
		func(h handed) []any { l, e := runs.Unpack(h.runs, 6); return []any{l, e, runs.Pack(h.lens)} },
		func(h handed) []any { return []any{lens.Put(bitw.New(), h.lens), lens.Size(h.lens)} },
		func(h handed) []any {
			a, e := weight.Freqs(h.floats)
			b, f := weight.Mix(h.freq, h.freq, 0)
			return []any{a, e, b, f}
		},
		func(h handed) []any {
			a, e := denote.Copy(h.hist, 0, 1, 9)
			b, r, f := denote.Apply(h.hist, api.Reps{1}, nil, 9)
			c, _, g := denote.Apply(h.hist, api.Reps{1}, h.tokens, 9)
			return []any{a, e, b, r, f, c, g}
		},
		func(h handed) []any {
			return []any{suffix.Ranks(order), suffix.Is("banana", order), lcp.Row("banana", order)}
		},
		func(h handed) []any { n, e := price.All(h.prices, h.tokens); return []any{n, e, price.Check(h.prices)} },
		func(h handed) []any {
			a, b, e := count.Tables(h.tokens)
			p := count.Prices(h.lens, h.freq)
			return []any{a, b, e, p.Main, p.Dist}
		},
		func(h handed) []any { s, e := coded.Put(h.tokens); return []any{s, e, coded.Size(h.tokens)} },
		func(h handed) []any {
			s, e := grams.Build(h.texts, 9, 2)
			return []any{grams.Count(h.texts, 2), s, e, multi.Join(h.texts)}
		},
		func(h handed) []any {
			s, e := ranger.Encode(h.bits, h.chances)
			b, f := ranger.Decode(s, h.chances)
			return []any{prob.Of(h.bits), s, e, b, f}
		},
		func(h handed) []any { s, e := bittree.Encode(h.freq, 3); return []any{s, e} },
		func(h handed) []any {
			s, e := mtf.Back(h.freq)
			a, f := zeros.Pack(h.freq)
			b, g := zeros.Unpack(h.freq)
			return []any{s, e, a, f, b, g}
		},
		func(h handed) []any {
			n, e := ilog.Entropy(h.freq)
			q, f := spread.Quantile(h.freq, 1, 2)
			return []any{n, e, q, f, spread.Buckets(h.freq), spread.Lens(h.tokens)}
		},
		func(h handed) []any {
			a, e := tans.Norm(h.freq, 5)
			b, f := tans.Spread(h.norm, 5)
			s, g := tans.Encode([]int{0, 1, 2}, h.norm, 5)
			c, i := tans.Decode(s, 3, h.norm, 5)
			return []any{a, e, b, f, s, g, c, i}
		},
		func(h handed) []any { a, b, c := tally.Tokens(h.tokens); return []any{a, b, c} },
	} {
		h := lists()
		first := call(h)
		again := call(h)
		if !reflect.DeepEqual(first, again) {
			t.Error(k, "not the same again", first, again)
		}
		for _, x := range first {
			spoil(x)
		}
		if !reflect.DeepEqual(h, lists()) || string(h.hist[:cap(h.hist)][4:]) != string(make([]byte, cap(h.hist)-4)) || !slices.Equal(order, suffix.Sort("banana")) {
			t.Error(k, "what was handed in has changed")
		}
		if !reflect.DeepEqual(call(h), again) {
			t.Error(k, "what was handed out is kept")
		}
	}
}

// spoil writes to a list that was handed out.
func spoil(x any) {
	switch l := x.(type) {
	case []int:
		for i := range l {
			l[i] = -77
		}
	case []bool:
		for i := range l {
			l[i] = !l[i]
		}
	case []byte:
		for i := range l {
			l[i]++
		}
	case []api.Run:
		clear(l)
	case []api.Gram:
		clear(l)
	}
}
