package tests

import (
	"math"
	"strconv"
	"strings"
	"testing"

	"loop.example/g03405/impl"
)

// Promise 1: each decoder is the inverse of its encoder.

func TestEncodeFixed(t *testing.T) {
	cases := []struct {
		n, width int
		want     string
	}{
		{258, 2, "\x01\x02"},
		{0, 1, "\x00"},
		{0, 7, "\x00\x00\x00\x00\x00\x00\x00"},
		{255, 1, "\xff"},
		{1, 3, "\x00\x00\x01"},
		{0x01020304050607, 7, "\x01\x02\x03\x04\x05\x06\x07"},
		{1<<56 - 1, 7, "\xff\xff\xff\xff\xff\xff\xff"},
	}
	for _, c := range cases {
		if got := impl.EncodeFixed(c.n, c.width); got != c.want {
			t.Errorf("EncodeFixed(%d, %d) = %q, want %q", c.n, c.width, got, c.want)
		}
	}
}

func TestEncodeFixedInvalid(t *testing.T) {
	for _, width := range []int{0, -1, 8, 9, 64, math.MinInt, math.MaxInt} {
		for _, n := range []int{0, 1, -1, math.MaxInt} {
			if got := impl.EncodeFixed(n, width); got != "" {
				t.Errorf("EncodeFixed(%d, %d) = %q, want nothing", n, width, got)
			}
		}
	}
	for width := 1; width <= 7; width++ {
		for _, n := range []int{-1, math.MinInt, 1 << (8 * width), math.MaxInt} {
			if got := impl.EncodeFixed(n, width); got != "" {
				t.Errorf("EncodeFixed(%d, %d) = %q, want nothing", n, width, got)
			}
		}
	}
}

func TestFixedInverse(t *testing.T) {
	for width := 1; width <= 7; width++ {
		most := 1<<(8*width) - 1
		for _, n := range []int{0, 1, 127, 128, 200, most / 3, most / 2, most - 1, most} {
			s := impl.EncodeFixed(n, width)
			if len(s) != width {
				t.Errorf("EncodeFixed(%d, %d) = %q: wrong length", n, width, s)
			}
			for _, rest := range []string{"", "\x00", "more"} {
				if got, ok := impl.DecodeFixed(s+rest, width); got != n || !ok {
					t.Errorf("DecodeFixed(%q, %d) = %d, %v, want %d", s+rest, width, got, ok, n)
				}
			}
		}
	}
	for a := range 256 {
		for b := range 256 {
			s := string([]byte{byte(a), byte(b)})
			n, ok := impl.DecodeFixed(s, 2)
			if !ok || n != 256*a+b || impl.EncodeFixed(n, 2) != s {
				t.Fatalf("DecodeFixed(%q, 2) = %d, %v", s, n, ok)
			}
		}
	}
}

func TestDecodeFixedInvalid(t *testing.T) {
	long := strings.Repeat("\x01", 100)
	for _, width := range []int{0, -1, 8, 64, math.MinInt, math.MaxInt} {
		for _, s := range []string{"", long} {
			if n, ok := impl.DecodeFixed(s, width); n != 0 || ok {
				t.Errorf("DecodeFixed(%q, %d) = %d, %v", s, width, n, ok)
			}
		}
	}
	for width := 1; width <= 7; width++ {
		if n, ok := impl.DecodeFixed(long[:width-1], width); n != 0 || ok {
			t.Errorf("DecodeFixed of %d bytes, %d = %d, %v", width-1, width, n, ok)
		}
	}
}

func TestEncodeVarint(t *testing.T) {
	cases := []struct {
		n    int
		want string
	}{
		{0, "\x00"},
		{1, "\x01"},
		{127, "\x7f"},
		{128, "\x80\x01"},
		{300, "\xac\x02"},
		{16383, "\xff\x7f"},
		{16384, "\x80\x80\x01"},
		{impl.MaxVarint, "\xff\xff\xff\xff\xff\xff\x7f"},
		{-1, ""},
		{math.MinInt, ""},
		{impl.MaxVarint + 1, ""},
		{math.MaxInt, ""},
	}
	for _, c := range cases {
		if got := impl.EncodeVarint(c.n); got != c.want {
			t.Errorf("EncodeVarint(%d) = %q, want %q", c.n, got, c.want)
		}
	}
	if impl.MaxVarint != 562949953421311 {
		t.Error("MaxVarint is", impl.MaxVarint)
	}
}

func TestVarintInverse(t *testing.T) {
	check := func(n, length int) {
		s := impl.EncodeVarint(n)
		if len(s) != length {
			t.Errorf("EncodeVarint(%d) = %q, want %d bytes", n, s, length)
		}
		for _, rest := range []string{"", "\x00", "\xff\x00", "z"} {
			if got, k := impl.DecodeVarint(s + rest); got != n || k != length {
				t.Errorf("DecodeVarint(%q) = %d, %d, want %d, %d", s+rest, got, k, n, length)
			}
		}
	}
	for length := 1; length <= 7; length++ {
		if length > 1 {
			check(1<<(7*(length-1)), length)
			check(1<<(7*(length-1))+1, length)
		}
		check(1<<(7*length)-2, length)
		check(1<<(7*length)-1, length)
	}
	for n := range 1 << 15 {
		check(n, len(impl.EncodeVarint(n)))
	}
}

func TestDecodeVarintInvalid(t *testing.T) {
	cases := []string{
		"",
		"\x80",
		"\xac",
		"\xff\xff",
		"\xff\xff\xff\xff\xff\xff",
		"\xff\xff\xff\xff\xff\xff\xff",
		// with unnecessary bytes
		"\x80\x00",
		"\x81\x00",
		"\xac\x82\x00",
		"\x80\x80\x80\x80\x80\x80\x00",
		"\xff\xff\xff\xff\xff\xff\xff\x00",
		// beyond MaxVarint
		"\x80\x80\x80\x80\x80\x80\x80\x01",
		"\xff\xff\xff\xff\xff\xff\xff\x01",
		"\x80\x80\x80\x80\x80\x80\x80\x80\x80\x01",
		strings.Repeat("\x80", 70) + "\x01",
		strings.Repeat("\xff", 1000),
	}
	for _, s := range cases {
		for _, rest := range []string{"", "\x80"} {
			if n, k := impl.DecodeVarint(s + rest); n != 0 || k != 0 {
				t.Errorf("DecodeVarint(%q) = %d, %d", s+rest, n, k)
			}
		}
	}
}

// TestDecodeVarintShort tries every string of two bytes: it has a varint as a prefix
// if the first byte ends it, or the second one does and is not unnecessary.
func TestDecodeVarintShort(t *testing.T) {
	for a := range 256 {
		for b := range 256 {
			wantN, wantK := 0, 0
			switch {
			case a < 128:
				wantN, wantK = a, 1
			case b > 0 && b < 128:
				wantN, wantK = a-128+128*b, 2
			}
			s := string([]byte{byte(a), byte(b)})
			if n, k := impl.DecodeVarint(s); n != wantN || k != wantK {
				t.Fatalf("DecodeVarint(%q) = %d, %d, want %d, %d", s, n, k, wantN, wantK)
			}
		}
	}
}

func TestHexInverse(t *testing.T) {
	cases := []struct{ s, hex string }{
		{"", ""},
		{"a\xff", "61ff"},
		{"\x00\x09\x0a\x9f\xf0", "00090a9ff0"},
		{"\u00e9", "c3a9"},
	}
	for _, c := range cases {
		if got := impl.EncodeHex(c.s); got != c.hex {
			t.Errorf("EncodeHex(%q) = %q, want %q", c.s, got, c.hex)
		}
		if got, ok := impl.DecodeHex(c.hex); got != c.s || !ok {
			t.Errorf("DecodeHex(%q) = %q, %v, want %q", c.hex, got, ok, c.s)
		}
	}
	for a := range 256 {
		for _, s := range []string{string([]byte{byte(a)}), string([]byte{byte(a), 0x7e, byte(255 - a)})} {
			if got, ok := impl.DecodeHex(impl.EncodeHex(s)); got != s || !ok {
				t.Errorf("DecodeHex(%q) = %q, %v, want %q", impl.EncodeHex(s), got, ok, s)
			}
		}
	}
}

// TestDecodeHexShort tries every string of two bytes, at each place of a longer one.
func TestDecodeHexShort(t *testing.T) {
	const digits = "0123456789abcdef"
	for a := range 256 {
		for b := range 256 {
			high, low := strings.IndexByte(digits, byte(a)), strings.IndexByte(digits, byte(b))
			want, wantOK := "", high >= 0 && low >= 0
			if wantOK {
				want = string([]byte{byte(16*high + low)})
			}
			s := string([]byte{byte(a), byte(b)})
			if got, ok := impl.DecodeHex(s); got != want || ok != wantOK {
				t.Fatalf("DecodeHex(%q) = %q, %v, want %q, %v", s, got, ok, want, wantOK)
			}
			if got, ok := impl.DecodeHex("61" + s + "62"); ok != wantOK || wantOK && got != "a"+want+"b" || !ok && got != "" {
				t.Fatalf("DecodeHex(%q) = %q, %v", "61"+s+"62", got, ok)
			}
		}
	}
}

func TestDecodeHexInvalid(t *testing.T) {
	cases := []string{
		"6", "616", "6F", "6f6F", "FF", "Ff", "0x", "0x61", "6g", "g6", " 61", "61 ", "61\n", "-1", "+1",
		"\u0161", "\u0161\u0161", "\uff16\uff11\u0161", "\x80\x80", "61\xff\xff", "6\x00",
	}
	for _, s := range cases {
		if got, ok := impl.DecodeHex(s); got != "" || ok {
			t.Errorf("DecodeHex(%q) = %q, %v", s, got, ok)
		}
	}
}

func TestFormatInt(t *testing.T) {
	cases := []struct {
		n    int
		want string
	}{
		{0, "0"},
		{7, "7"},
		{-7, "-7"},
		{10, "10"},
		{-120, "-120"},
		{1000000000, "1000000000"},
		{math.MaxInt, "9223372036854775807"},
		{math.MinInt, "-9223372036854775808"},
		{math.MinInt + 1, "-9223372036854775807"},
	}
	for _, c := range cases {
		if got := impl.FormatInt(c.n); got != c.want {
			t.Errorf("FormatInt(%d) = %q, want %q", c.n, got, c.want)
		}
	}
}

func TestIntInverse(t *testing.T) {
	check := func(n int) {
		s := impl.FormatInt(n)
		if s != strconv.Itoa(n) {
			t.Errorf("FormatInt(%d) = %q", n, s)
		}
		if got, ok := impl.ParseInt(s); got != n || !ok {
			t.Errorf("ParseInt(%q) = %d, %v", s, got, ok)
		}
	}
	for n := -12000; n <= 12000; n++ {
		check(n)
	}
	for n := 1; n < 1000000000; n *= 10 {
		for _, m := range []int{n - 1, n, n + 1, 10*n - 1, 123456789 / n} {
			check(m)
			check(-m)
		}
	}
}

func TestParseIntInvalid(t *testing.T) {
	cases := []string{
		"", "-", "--", "--7", "+", "+7", "-+7", "+-7", "7-", "7+",
		"-0", "00", "07", "-07", "007", "0000000001", "000000000",
		" 7", "7 ", "7\n", "\t7", "7\x00", "- 7", "1 2", "1_000", "1,000", "7.0", "1e3", "0x7", "a", "f", "1a", "A",
		"1000000000", "-1000000000", "9999999999", "-9999999999",
		"9223372036854775807", "-9223372036854775808", "18446744073709551623", strings.Repeat("9", 1000),
		"\u0667", "\uff17", "1\u0130", "\xff", "7\xff", "-\x80", "\u22127",
	}
	for _, s := range cases {
		if n, ok := impl.ParseInt(s); n != 0 || ok {
			t.Errorf("ParseInt(%q) = %d, %v", s, n, ok)
		}
	}
}

// TestParseIntShort tries every string of at most four of some bytes: only what FormatInt returns is read.
func TestParseIntShort(t *testing.T) {
	formats := map[string]int{}
	for n := -999; n <= 9999; n++ {
		formats[strconv.Itoa(n)] = n
	}
	var try func(s string)
	try = func(s string) {
		want, wantOK := formats[s]
		if n, ok := impl.ParseInt(s); n != want || ok != wantOK {
			t.Errorf("ParseInt(%q) = %d, %v, want %d, %v", s, n, ok, want, wantOK)
		}
		if len(s) == 4 {
			return
		}
		for _, b := range []byte("0159-+ a.:/\xc3") {
			try(s + string([]byte{b}))
		}
	}
	try("")
}
