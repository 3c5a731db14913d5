package whole

import (
	"math/rand"
	"strings"
	"testing"

	"gladstone/api"
	"gladstone/best"
	"gladstone/bound"
	"gladstone/deflow"
	"gladstone/denote"
	"gladstone/frame"
	"gladstone/inflow"
	"gladstone/kraft"
	"gladstone/level"
	"gladstone/pmerge"
	"gladstone/price"
	"gladstone/unframe"
)

// kinds is texts of some kinds, of n bytes each.
func kinds(rnd *rand.Rand, n int) []string {
	chance, few := make([]byte, n), make([]byte, n)
	rnd.Read(chance)
	for i := range few {
		few[i] = "acgt"[rnd.Intn(4)]
	}
	var words strings.Builder
	for words.Len() < n {
		words.WriteString([]string{"the ", "codec ", "window ", "frames of ", "large ", "blocks, ", "a\n"}[rnd.Intn(7)])
	}
	half := string(chance[:n/2])
	return []string{string(chance), string(few), words.String()[:n], half + half, strings.Repeat("z", n), strings.Repeat("abcd\x00\x01", n/6)}
}

// told is what a writer tells of data, written in parts, flushed by chance.
func told(t *testing.T, rnd *rand.Rand, data string, p api.Params, most, flushes int) (string, int) {
	t.Helper()
	w, e := deflow.New(p)
	if e != api.OK {
		t.Fatal("New", e)
	}
	var out strings.Builder
	add := func(s string, e api.Errno) {
		if e != api.OK {
			t.Fatal("the writer has an error", e)
		}
		out.WriteString(s)
	}
	flushed := 0
	for at := 0; at < len(data); {
		k := min(len(data)-at, rnd.Intn(most+1))
		add(w.Write(data[at : at+k]))
		at += k
		if flushed < flushes && rnd.Intn(4) == 0 {
			add(w.Flush())
			flushed++
		}
	}
	add(w.Finish())
	return out.String(), flushed
}

// read is what a reader tells of s, handed in parts.
func read(rnd *rand.Rand, s, dict string, limit, most int) (string, api.Errno) {
	r := inflow.New(dict, limit)
	var out strings.Builder
	for at := 0; at < len(s); {
		k := min(len(s)-at, rnd.Intn(most+1))
		got, _ := r.Write(s[at : at+k])
		out.WriteString(got)
		at += k
	}
	return out.String(), r.Finish()
}

// TestRoundAndSize is T1 and T5.
func TestRoundAndSize(t *testing.T) {
	rnd := rand.New(rand.NewSource(1))
	for lev := range 10 {
		for log := 15; log <= 26; log++ {
			n := rnd.Intn(1 << rnd.Intn(12))
			if log%4 == lev%4 {
				n = 70000 + rnd.Intn(80000)
			}
			all := kinds(rnd, n)
			data := all[rnd.Intn(len(all))]
			p := api.Params{Level: lev, Log: log}
			if rnd.Intn(2) == 0 {
				p.Dict = all[rnd.Intn(len(all))]
				p.Dict = p.Dict[:min(len(p.Dict), 1<<15)]
			}
			s, flushes := told(t, rnd, data, p, 1+n/3, rnd.Intn(5))
			if got, e := read(rnd, s, p.Dict, len(data), 1+len(s)/3); got != data || e != api.OK {
				t.Fatal(lev, log, n, e)
			}
			if len(s) > bound.Frame(len(data), flushes) || len(s) > len(data)+5*(bound.Blocks(len(data))+flushes)+32 {
				t.Fatal(lev, log, n, "too long", len(s))
			}
		}
	}
	long := strings.Repeat("x", 1<<15+1)
	for _, c := range []struct {
		p api.Params
		e api.Errno
	}{{api.Params{Level: -1, Log: 15}, api.ErrRange}, {api.Params{Level: 10, Log: 15}, api.ErrRange}, {api.Params{Log: 14}, api.ErrWindow}, {api.Params{Log: 27}, api.ErrWindow}, {api.Params{Log: 15, Dict: long}, api.ErrDict}} {
		if w, e := deflow.New(c.p); w != nil || e != c.e {
			t.Error(c.p.Level, c.p.Log, e)
		}
	}
}

// spoilt is a frame with bytes turned, lacking, doubled or put in.
func spoilt(rnd *rand.Rand, s string) string {
	b := []byte(s)
	for range 1 + rnd.Intn(3) {
		switch at := rnd.Intn(len(b) + 1); rnd.Intn(5) {
		case 0:
			b = b[:at]
		case 1:
			b = append(b, byte(rnd.Intn(256)))
		case 2:
			b = append(b[:at:at], append([]byte{byte(rnd.Intn(4))}, b[at:]...)...)
		default:
			if len(b) > 0 {
				b[at%len(b)] ^= 1 << rnd.Intn(8)
			}
		}
	}
	return string(b)
}

// TestTotalAndSpoilt is T2 and T7.
func TestTotalAndSpoilt(t *testing.T) {
	rnd := rand.New(rand.NewSource(2))
	for range 1500 {
		all := kinds(rnd, 12+rnd.Intn(300))
		data, dict := all[rnd.Intn(len(all))], ""
		if rnd.Intn(3) == 0 {
			dict = "codec window frames of large"
		}
		s, _ := told(t, rnd, data, api.Params{Level: rnd.Intn(10), Log: 15, Dict: dict}, 100, 3)
		s = spoilt(rnd, s)
		limit := rnd.Intn(2 * len(data))
		want, e := unframe.Prefix(s, dict, limit)
		got, f := read(rnd, s, dict, limit, 1+rnd.Intn(len(s)+1))
		if got != want || f != e || len(got) > limit {
			t.Fatal(len(got), len(want), f, e)
		}
		whole, g := unframe.Decompress(s, dict, limit)
		if g != e || e == api.OK && whole != want || e != api.OK && whole != "" {
			t.Fatal(g, e)
		}
		more, _ := unframe.Prefix(s, dict, api.NoLimit)
		if !strings.HasPrefix(more, want) {
			t.Fatal("no beginning of what a greater limit has")
		}
	}
	for range 2000 {
		b := make([]byte, rnd.Intn(80))
		rnd.Read(b)
		s := "GLD1" + string([]byte{byte(15 + rnd.Intn(12)), byte(rnd.Intn(3))}) + string(b)
		want, e := unframe.Prefix(s, "", 1000)
		if got, f := read(rnd, s, "", 1000, 20); got != want || f != e || len(got) > 1000 {
			t.Fatal(f, e)
		}
	}
}

// TestParse is T3.
func TestParse(t *testing.T) {
	rnd := rand.New(rand.NewSource(3))
	for range 200 {
		hist, block := kinds(rnd, 6+rnd.Intn(30))[1], kinds(rnd, 6+rnd.Intn(9))[1]
		p := price.Flat(1+rnd.Intn(9), 1+rnd.Intn(9))
		r := api.Reps{1, 2, 3, 4}
		l, cost, e := best.Parse(hist, block, r, p, 40)
		all, f := price.All(p, l)
		if e != api.OK || f != api.OK || all != cost || !denote.Valid(hist, r, l, 40, block) {
			t.Fatal(e, f, all, cost)
		}
		if _, quick, _ := best.Quick(hist, block, r, p, 40); quick < cost {
			t.Fatal("another parse costs less")
		}
	}
}

// TestTables is T4: no two lengths of the same sum cost less the other way round, and one more limit never costs more.
func TestTables(t *testing.T) {
	rnd := rand.New(rand.NewSource(4))
	for range 200 {
		freq := make([]int, 2+rnd.Intn(60))
		for i := range freq {
			freq[i] = rnd.Intn(1 << rnd.Intn(20))
		}
		freq[0], freq[1] = 1, 2
		last := -1
		for limit := 6; limit <= 16; limit++ {
			l, e := pmerge.Lengths(freq, limit)
			if e != api.OK || kraft.Check(l, limit) != api.OK {
				t.Fatal(e)
			}
			cost := pmerge.Cost(freq, l)
			if last >= 0 && cost > last {
				t.Fatal("a greater limit costs more")
			}
			last = cost
		}
	}
}

// TestSame is T6.
func TestSame(t *testing.T) {
	rnd := rand.New(rand.NewSource(5))
	for lev := range 10 {
		data := kinds(rnd, 80000)[lev%6]
		p := api.Params{Level: lev, Log: 16, Dict: "windows"}
		a, _ := told(t, rnd, data, p, 100, 0)
		b, _ := told(t, rnd, data, p, 90000, 0)
		c, _ := frame.Compress(data, p)
		if a != b || a != c {
			t.Fatal(lev)
		}
	}
}

// TestExamples is the ten examples of the whole.
func TestExamples(t *testing.T) {
	rnd := rand.New(rand.NewSource(6))
	for lev := range 10 {
		compress := func(data, dict string) string {
			s, e := frame.Compress(data, api.Params{Level: lev, Log: 15, Dict: dict})
			if e != api.OK {
				t.Fatal(e)
			}
			return s
		}
		if s := compress("", ""); len(s) != 10 {
			t.Error(1, lev, len(s))
		}
		words := strings.Repeat("gladstone ", 9)
		if s := compress(words, ""); lev > 0 && len(s) >= len(words) {
			t.Error(2, lev, len(s))
		}
		if s := compress(strings.Repeat("z", 1<<16), ""); lev > 0 && (len(s) > 70 || s[5] != api.BlockCoded) {
			t.Error(3, lev, len(s))
		}
		if s := compress(kinds(rnd, 1<<17)[0], ""); len(s) != 1<<17+2*5+10 {
			t.Error(4, lev, len(s))
		}
		with, without := compress(words, "words"), compress(words, "")
		for _, c := range [][2]string{{with, ""}, {with, "other"}, {without, "words"}} {
			if got, e := read(rnd, c[0], c[1], api.NoLimit, 9); got != "" || e != api.ErrDict {
				t.Error(5, lev, e)
			}
		}
		if got, e := read(rnd, without[:len(without)-1], "", 90, 9); got != words || e != api.ErrShort {
			t.Error(6, lev, e)
		}
		if _, e := read(rnd, without+"x", "", 90, 9); e != api.ErrForm {
			t.Error(7, lev, e)
		}
		if _, e := read(rnd, without, "", 89, 9); e != api.ErrLimit {
			t.Error(8, lev, e)
		}
		w, _ := deflow.New(api.Params{Level: lev, Log: 15})
		w.Write(words)
		a, e := w.Flush()
		if b, f := w.Flush(); a == "" || b != "" || e != api.OK || f != api.OK {
			t.Error(9, lev, e, f)
		}
		w.Finish()
		if s, e := w.Write("x"); s != "" || e != api.ErrState {
			t.Error(10, lev, e)
		}
	}
}

// TestLevels holds levels against what they mean: a higher one is rarely longer on words.
func TestLevels(t *testing.T) {
	rnd := rand.New(rand.NewSource(7))
	data := kinds(rnd, 200)[2]
	for lev := range 10 {
		s, _ := frame.Compress(data, api.Params{Level: lev, Log: 20})
		set, _ := level.Of(lev)
		if set.Way != api.WayStored && len(s) >= len(data) {
			t.Error(lev, len(s))
		}
	}
}
