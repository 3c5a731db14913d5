package ranger_test

import (
	"math"
	"math/rand"
	"slices"
	"testing"

	"gladstone/api"
	. "gladstone/ranger"
)

// slow is the bytes as the chapter says, with numbers of any size.
func slow(bits []bool, probs []int) string {
	if len(bits) == 0 {
		return ""
	}
	a, b := 0, 1<<32-1
	var out []byte
	for i, bit := range bits {
		m := a + probs[i]*((b-a)/2048)
		if bit {
			a = m + 1
		} else {
			b = m
		}
		for a/(1<<24) == b/(1<<24) {
			out = append(out, byte(a/(1<<24)))
			a, b = a*256%(1<<32), (b*256+255)%(1<<32)
		}
	}
	return string(append(out, byte(a/(1<<24)), byte(a/(1<<16)), byte(a/256), byte(a)))
}

func TestRound(t *testing.T) {
	rnd := rand.New(rand.NewSource(1))
	for range 400 {
		n := rnd.Intn(600)
		bits, probs := make([]bool, n), make([]int, n)
		few := rnd.Intn(4)
		for i := range bits {
			probs[i] = 1 + rnd.Intn(2047)
			switch few {
			case 0:
				probs[i] = 1
			case 1:
				probs[i] = 2047
			}
			bits[i] = rnd.Intn(2048) >= probs[i] == (few != 3)
		}
		s, e := Encode(bits, probs)
		if e != api.OK || s != slow(bits, probs) {
			t.Fatalf("%q, not %q, %d", s, slow(bits, probs), e)
		}
		got, e := Decode(s, probs)
		if e != api.OK || !slices.Equal(got, bits) {
			t.Fatal(e)
		}
		d := New(s)
		for i := range bits {
			if bit, e := d.Bit(probs[i]); bit != bits[i] || e != api.OK {
				t.Fatal(i, e)
			}
			if _, e := d.Bit(0); e != api.ErrRange {
				t.Fatal("no chance", e)
			}
		}
	}
}

func TestExample(t *testing.T) {
	if s, e := Encode([]bool{false}, []int{1024}); s != "\x00\x00\x00\x00" || e != api.OK {
		t.Errorf("%q, %d", s, e)
	}
	if s, e := Encode([]bool{true}, []int{1024}); s != "\x7f\xff\xfc\x01" || e != api.OK {
		t.Errorf("%q, %d", s, e)
	}
	if s, e := Encode(nil, nil); s != "" || e != api.OK {
		t.Errorf("%q, %d", s, e)
	}
}

func TestRefuses(t *testing.T) {
	if s, e := Encode([]bool{true}, nil); s != "" || e != api.ErrArg {
		t.Error(s, e)
	}
	if s, e := Encode(nil, []int{0}); s != "" || e != api.ErrArg {
		t.Error(s, e)
	}
	for _, p := range []int{0, -1, 2048, math.MaxInt, math.MinInt} {
		if s, e := Encode([]bool{true, true}, []int{5, p}); s != "" || e != api.ErrRange {
			t.Error(p, s, e)
		}
		if l, e := Decode("abc", []int{5, p}); l != nil || e != api.ErrRange {
			t.Error(p, l, e)
		}
		if b, e := New("\xff").Bit(p); b || e != api.ErrRange {
			t.Error(p, b, e)
		}
	}
	var d *Decoder
	if b, e := d.Bit(5); b || e != api.ErrArg {
		t.Error("nil", e)
	}
	if b, e := d.Bit(0); b || e != api.ErrArg {
		t.Error("nil", e)
	}
}

func TestBytesThatLack(t *testing.T) {
	probs := slices.Repeat([]int{1024}, 100)
	got, e := Decode("", probs)
	want, _ := Decode("\x00\x00\x00\x00\x00\x00\x00\x00\x00\x00\x00\x00\x00\x00\x00\x00\x00\x00\x00\x00", probs)
	if e != api.OK || !slices.Equal(got, want) || slices.Contains(got, true) {
		t.Error(got, e)
	}
	a, _ := Decode("\xff\xff", probs)
	b, _ := Decode("\xff\xff\x00\x00\x00\x00\x00\x00\x00\x00\x00\x00\x00\x00\x00\x00", probs)
	if !slices.Equal(a, b) {
		t.Error("0 where there is none")
	}
}
