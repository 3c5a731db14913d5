package heads_test

import (
	"testing"

	"gladstone/api"
	. "gladstone/heads"
)

func TestPut(t *testing.T) {
	for _, c := range []struct {
		h api.Header
		s string
		e api.Errno
	}{
		{api.Header{Log: 15}, "GLD1\x0f", api.OK},
		{api.Header{Log: 26}, "GLD1\x1a", api.OK},
		{api.Header{Log: 15, Dict: true}, "GLD1\x2f\x00\x00\x00\x00", api.OK},
		{api.Header{Log: 26, Dict: true, DictID: 0x80706051}, "GLD1\x3a\x51\x60\x70\x80", api.OK},
		{api.Header{Log: 14, DictID: 1}, "", api.ErrWindow},
		{api.Header{Log: 27}, "", api.ErrWindow},
		{api.Header{Log: -1, Dict: true}, "", api.ErrWindow},
		{api.Header{Log: 1 << 40}, "", api.ErrWindow},
		{api.Header{Log: 20, DictID: 1}, "", api.ErrArg},
	} {
		s, e := Put(c.h)
		if s != c.s || e != c.e {
			t.Errorf("%v: %q, %d", c.h, s, e)
		}
		if e != api.OK {
			continue
		}
		if h, left, e := Read(s + "behind"); h != c.h || left != "behind" || e != api.OK {
			t.Errorf("Read(%q): %v, %q, %d", s, h, left, e)
		}
		if h, left, e := Read(s); h != c.h || left != "" || e != api.OK {
			t.Errorf("Read(%q): %v, %q, %d", s, h, left, e)
		}
		for k := range len(s) {
			if h, left, e := Read(s[:k]); h != (api.Header{}) || left != "" || e != api.ErrShort {
				t.Errorf("Read(%q): %d", s[:k], e)
			}
		}
	}
}

func TestReadRefuses(t *testing.T) {
	for _, s := range []string{"X", "GX", "GLX", "GLD2", "GLD2\x00", "gld1\x0f"} {
		if h, left, e := Read(s); h != (api.Header{}) || left != "" || e != api.ErrMagic {
			t.Errorf("%q: %d", s, e)
		}
	}
	for b := range 256 {
		want := api.ErrWindow
		if log := b % 32; b < 64 && log >= 15 && log <= 26 {
			want = api.OK
			if b >= 32 {
				want = api.ErrShort
			}
		}
		if _, _, e := Read("GLD1" + string([]byte{byte(b)})); e != want {
			t.Errorf("the byte %d: %d", b, e)
		}
	}
}

func TestBlocks(t *testing.T) {
	for _, c := range []struct {
		b api.Block
		s string
	}{
		{api.Block{}, "\x00"},
		{api.Block{Kind: api.BlockStored, Raw: 1, Coded: 1}, "\x01\x00\x00\x00\x00"},
		{api.Block{Kind: api.BlockStored, Raw: 1 << 16, Coded: 1 << 16}, "\x01\xff\xff\xff\xff"},
		{api.Block{Kind: api.BlockCoded, Raw: 2, Coded: 1}, "\x02\x01\x00\x00\x00"},
		{api.Block{Kind: api.BlockCoded, Raw: 1 << 16, Coded: 1<<16 - 1}, "\x02\xff\xff\xfe\xff"},
		{api.Block{Kind: api.BlockCoded, Raw: 0x1235, Coded: 0x235}, "\x02\x34\x12\x34\x02"},
	} {
		if s, e := PutBlock(c.b); s != c.s || e != api.OK {
			t.Errorf("%v: %q, %d", c.b, s, e)
		}
		if b, left, e := ReadBlock(c.s + "behind"); b != c.b || left != "behind" || e != api.OK {
			t.Errorf("%q: %v, %d", c.s, b, e)
		}
		if b, left, e := ReadBlock(c.s); b != c.b || left != "" || e != api.OK {
			t.Errorf("%q: %v, %d", c.s, b, e)
		}
		for k := range len(c.s) {
			if b, left, e := ReadBlock(c.s[:k]); b != (api.Block{}) || left != "" || e != api.ErrShort {
				t.Errorf("%q: %d", c.s[:k], e)
			}
		}
	}
}

func TestBlocksRefuses(t *testing.T) {
	for _, b := range []api.Block{{Raw: 1}, {Coded: 1}, {Kind: 3}, {Kind: -1}, {Kind: 1}, {Kind: 1, Raw: 1, Coded: 2}, {Kind: 1, Raw: 1<<16 + 1, Coded: 1<<16 + 1}, {Kind: 1, Raw: -1, Coded: -1},
		{Kind: 2, Raw: 1, Coded: 0}, {Kind: 2, Raw: 1, Coded: 1}, {Kind: 2, Raw: 2, Coded: 0}, {Kind: 2, Raw: 2, Coded: 2}, {Kind: 2, Raw: 2, Coded: -1}, {Kind: 2, Raw: 1<<16 + 1, Coded: 5}} {
		if s, e := PutBlock(b); s != "" || e != api.ErrBlock {
			t.Errorf("%v: %q, %d", b, s, e)
		}
	}
	for _, s := range []string{"\x03", "\xff", "\x03\x00\x00\x00\x00", "\x01\x00\x00\x01\x00", "\x02\x00\x00\x00\x00", "\x02\x01\x00\x01\x00", "\x02\x01\x00\x02\x00"} {
		if b, left, e := ReadBlock(s); b != (api.Block{}) || left != "" || e != api.ErrBlock {
			t.Errorf("%q: %v, %d", s, b, e)
		}
	}
}
