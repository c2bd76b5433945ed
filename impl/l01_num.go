package impl

import "strconv"

const MaxVarint = 562949953421311

// Seven bytes hold every number a caller may encode without reaching the sign
// bit of an int, so neither encoding ever has to deal with overflow.
const maxWidth = 7

const maxDigits = 9

const hexDigits = "0123456789abcdef"

func EncodeFixed(n int, width int) string {
	if width < 1 || width > maxWidth || n < 0 || n>>(8*width) != 0 {
		return ""
	}
	out := make([]byte, width)
	for i := range out {
		out[width-1-i] = byte(n >> (8 * i))
	}
	return string(out)
}

func DecodeFixed(s string, width int) (int, bool) {
	if width < 1 || width > maxWidth || len(s) < width {
		return 0, false
	}
	n := 0
	for i := range width {
		n = n<<8 | int(s[i])
	}
	return n, true
}

func EncodeVarint(n int) string {
	if n < 0 || n > MaxVarint {
		return ""
	}
	var out []byte
	for n >= 128 {
		out = append(out, byte(n&127+128))
		n >>= 7
	}
	return string(append(out, byte(n)))
}

func DecodeVarint(s string) (int, int) {
	n := 0
	for i := range min(len(s), maxWidth) {
		n |= int(s[i]&127) << (7 * i)
		if s[i] >= 128 {
			continue
		}
		// Encoding again is what refuses a varint with unnecessary bytes.
		if EncodeVarint(n) != s[:i+1] {
			return 0, 0
		}
		return n, i + 1
	}
	return 0, 0
}

func EncodeHex(s string) string {
	out := make([]byte, 0, 2*len(s))
	for i := range len(s) {
		out = append(out, hexDigits[s[i]>>4], hexDigits[s[i]&15])
	}
	return string(out)
}

func DecodeHex(s string) (string, bool) {
	if len(s)%2 != 0 {
		return "", false
	}
	out := make([]byte, len(s)/2)
	for i, r := range s {
		d := digitOf(r)
		if d < 0 {
			return "", false
		}
		// Only digits came before, one byte each, so i also counts them.
		out[i/2] = out[i/2]<<4 | byte(d)
	}
	return string(out), true
}

func FormatInt(n int) string {
	return strconv.Itoa(n)
}

func ParseInt(s string) (int, bool) {
	digits, negative := s, false
	if s != "" && s[0] == '-' {
		digits, negative = s[1:], true
	}
	if len(digits) > maxDigits {
		return 0, false
	}
	n := 0
	for _, r := range digits {
		d := digitOf(r)
		if d < 0 || d > 9 {
			return 0, false
		}
		n = 10*n + d
	}
	if negative {
		n = -n
	}
	// Formatting again is what refuses leading zeros, -0 and a lack of digits.
	if FormatInt(n) != s {
		return 0, false
	}
	return n, true
}

// digitOf compares whole runes: the low byte of a rune beyond ASCII may look
// like a digit. It returns -1 for every rune that EncodeHex does not write.
func digitOf(r rune) int {
	switch {
	case '0' <= r && r <= '9':
		return int(r - '0')
	case 'a' <= r && r <= 'f':
		return int(r-'a') + 10
	}
	return -1
}
