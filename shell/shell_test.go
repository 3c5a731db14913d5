package shell_test

import (
	"encoding/hex"
	"strings"
	"testing"

	"gladstone/api"
	"gladstone/deflow"
	"gladstone/frame"
	. "gladstone/shell"
)

func TestHex(t *testing.T) {
	if Hex("") != "" || Hex("\x00\x0f\xf0\xffa") != "000ff0ff61" {
		t.Error(Hex("\x00\x0f\xf0\xffa"))
	}
	all := make([]byte, 256)
	for i := range all {
		all[i] = byte(i)
	}
	if Hex(string(all)) != hex.EncodeToString(all) {
		t.Error("all bytes")
	}
}

func TestRun(t *testing.T) {
	f, _ := frame.Compress("abc", api.Params{Level: 3, Log: 20})
	w, _ := deflow.New(api.Params{Level: 5, Log: 15})
	a, _ := w.Write("aaaaaaaaaaaaaaaaaaaaaaaaaaaaaaaaaaaaaaaaaaaaaaaaaa")
	b, _ := w.Flush()
	c, _ := w.Finish()
	long := Hex(strings.Repeat("a", 50))
	big, _ := frame.Compress(strings.Repeat("x", 4097), api.Params{Level: 0, Log: 15})
	fit, _ := frame.Compress(strings.Repeat("x", 4096), api.Params{Level: 0, Log: 15})
	for k, x := range []struct {
		text, out string
		n         int
		e         api.Errno
	}{
		{"", "", 1, api.ErrForm},
		{"level 0 log 15\nfinish\n", "wrote 474c44310f0000000000\n", 0, api.OK},
		{"level 0 log 15\n", "", 0, api.OK},
		{"level 0 log 15", "", 1, api.ErrForm},
		{"level 5 log 15\nwrite " + long + "\nflush\nflush\nfinish\n", "wrote " + Hex(a) + "\nwrote " + Hex(b) + "\nwrote \nwrote " + Hex(c) + "\n", 0, api.OK},
		{"level 0 log 15\nwrite " + long + "\nflush\n", "wrote 474c44310f\nwrote 0131003100" + long + "\n", 0, api.OK},
		{"level 0 log 15\nread " + Hex(f[:5]) + "\nread " + Hex(f[5:]) + "\nfinish\n", "got \ngot 616263\nwrote 474c44310f0000000000\n", 0, api.OK},
		{"level 0 log 15\nread " + Hex(f) + "\nread 00\nfinish\n", "got 616263\n", 3, api.ErrForm},
		{"level 0 log 15\nread " + Hex(f+"x") + "\n", "", 2, api.ErrForm},
		{"level 0 log 15\nread 00\n", "", 2, api.ErrMagic},
		{"level 0 log 15\nread " + Hex(fit) + "\n", "got " + Hex(strings.Repeat("x", 4096)) + "\n", 0, api.OK},
		{"level 0 log 15\nread " + Hex(big) + "\n", "", 2, api.ErrLimit},
		{"level 0 log 15\nfinish\nflush\n", "wrote 474c44310f0000000000\n", 3, api.ErrState},
		{"level 0 log 15\nfinish\nwrite 00\n", "wrote 474c44310f0000000000\n", 3, api.ErrState},
		{"level 0 log 15\nfinish\nfinish\nfinish\n", "wrote 474c44310f0000000000\n", 3, api.ErrState},
		{"level 0 log 14\nfinish\n", "", 1, api.ErrWindow},
		{"level 9 log 27\nfinish\n", "", 1, api.ErrWindow},
		{"level 9 log 26\nfinish\n", "wrote 474c44311a0000000000\n", 0, api.OK},
		{"level 0 log 15\nflush", "", 2, api.ErrForm},
		{"level 0 log 15\nflush\nflush", "wrote 474c44310f\n", 3, api.ErrForm},
		{"flush\n", "", 1, api.ErrForm},
		{"\n", "", 1, api.ErrForm},
	} {
		if out, n, e := Run(x.text); out != x.out || n != x.n || e != x.e {
			t.Errorf("%d: %q, %d, %d", k, out, n, e)
		}
	}
}

func TestLinesThatAreNone(t *testing.T) {
	for _, line := range []string{"level 10 log 15", "level 0  log 15", "level 0 log 5", "level 0 log 015", "level a log 15", "level 0 log 1a", "Level 0 log 15", "level 0 log 15 ", " level 0 log 15", "level -1 log 15", "level 0 log 15\r", "level / log 15", "level : log 15"} {
		if out, n, e := Run(line + "\n"); out != "" || n != 1 || e != api.ErrForm {
			t.Errorf("%q: %q, %d, %d", line, out, n, e)
		}
	}
	for _, line := range []string{"", "level 0 log 15", "write", "write ", "write 0", "write 0A", "write 000", "write  00", "write 00 ", "write 0g", "Write 00", "flush ", " flush", "flush 00", "finish ", "read", "read ", "read 1", "read xx", "wrote 00", "write00", "write\t00", "flush\r"} {
		if out, n, e := Run("level 0 log 15\nflush\n" + line + "\n"); out != "wrote 474c44310f\n" || n != 3 || e != api.ErrForm {
			t.Errorf("%q: %q, %d, %d", line, out, n, e)
		}
	}
}

// TestWithoutAFirstLine holds that no text is well whose first line was not read.
func TestWithoutAFirstLine(t *testing.T) {
	const first = "level 0 log 15\n"
	for n := range len(first) {
		if out, at, e := Run(first[:n]); out != "" || at != 1 || e != api.ErrForm {
			t.Errorf("%q: %q, %d, %d", first[:n], out, at, e)
		}
	}
	for _, text := range []string{"\n\n", "\n" + first, "\n" + first + "finish\n", "finish\n" + first, "flush\n", "finish\n", "write 00\n", "read 00\n", " ", "\r\n", "\x00", "\xff\n", "\x00" + first} {
		if out, at, e := Run(text); out != "" || at != 1 || e != api.ErrForm {
			t.Errorf("%q: %q, %d, %d", text, out, at, e)
		}
	}
	for i := range 1 << 16 {
		for _, text := range []string{string([]byte{byte(i)}), string([]byte{byte(i), byte(i >> 8)})} {
			if out, at, e := Run(text); out != "" || at != 1 || e != api.ErrForm {
				t.Fatalf("%q: %q, %d, %d", text, out, at, e)
			}
		}
	}
}

// TestEachBeginning holds that a script that is well is well up to each of its lines' ends, and nowhere else.
func TestEachBeginning(t *testing.T) {
	f, _ := frame.Compress("abc", api.Params{Level: 3, Log: 20})
	script := "level 6 log 15\nwrite 616263\nflush\nread " + Hex(f) + "\nflush\nfinish\n"
	for n := range len(script) + 1 {
		text := script[:n]
		whole := strings.Count(text, "\n")
		out, at, e := Run(text)
		if strings.Count(out, "\n") != max(0, whole-1) {
			t.Errorf("%q: %q", text, out)
		}
		if well := strings.HasSuffix(text, "\n"); well && (at != 0 || e != api.OK) || !well && (at != whole+1 || e != api.ErrForm) {
			t.Errorf("%q: %d, %d", text, at, e)
		}
	}
}
