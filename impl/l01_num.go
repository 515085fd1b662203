package impl

import "strconv"

const MaxVarint = 562949953421311

// Seven bytes are 56 bits, so no number of a valid width reaches the sign bit.
const maxFixedWidth = 7

// Seven groups of seven bits are exactly the bits of MaxVarint, so a number
// read from at most this many bytes is never too great.
const maxVarintBytes = 7

// The greatest number of 9 digits.
const maxParsedInt = 999999999

const hexDigits = "0123456789abcdef"

func isFixedWidth(width int) bool {
	return width >= 1 && width <= maxFixedWidth
}

func EncodeFixed(n int, width int) string {
	if !isFixedWidth(width) || n < 0 || n>>(8*width) != 0 {
		return ""
	}
	out := make([]byte, width)
	for i := width - 1; i >= 0; i-- {
		out[i] = byte(n)
		n >>= 8
	}
	return string(out)
}

func DecodeFixed(s string, width int) (int, bool) {
	if !isFixedWidth(width) || len(s) < width {
		return 0, false
	}
	n := 0
	for i := range width {
		n = n<<8 | int(s[i])
	}
	return n, true
}

func EncodeVarint(n int) string {
	if n < 0 || n > MaxVarint {
		return ""
	}
	out := make([]byte, 0, maxVarintBytes)
	for n >= 128 {
		out = append(out, byte(n%128+128))
		n /= 128
	}
	return string(append(out, byte(n)))
}

func DecodeVarint(s string) (int, int) {
	n := 0
	for i := range min(len(s), maxVarintBytes) {
		n |= int(s[i]%128) << (7 * i)
		if s[i] >= 128 {
			continue
		}
		// Encoding again rejects bytes that the number does not need.
		if EncodeVarint(n) != s[:i+1] {
			return 0, 0
		}
		return n, i + 1
	}
	return 0, 0
}

func EncodeHex(s string) string {
	out := make([]byte, 0, 2*len(s))
	// By index: a range over the string would yield runes in place of bytes.
	for i := range len(s) {
		out = append(out, hexDigits[s[i]/16], hexDigits[s[i]%16])
	}
	return string(out)
}

func DecodeHex(s string) (string, bool) {
	if len(s)%2 != 0 {
		return "", false
	}
	out := make([]byte, 0, len(s)/2)
	high := 0
	// A range by runes is safe here: every digit is one byte, and any other
	// rune, as well as a byte that is no rune, ends the loop.
	for i, r := range s {
		d := hexDigitValue(r)
		if d < 0 {
			return "", false
		}
		if i%2 == 0 {
			high = d
		} else {
			out = append(out, byte(16*high+d))
		}
	}
	return string(out), true
}

// hexDigitValue returns -1 for a rune that is no digit of EncodeHex, which
// knows no upper-case letters.
func hexDigitValue(r rune) int {
	switch {
	case r >= '0' && r <= '9':
		return int(r - '0')
	case r >= 'a' && r <= 'f':
		return int(r-'a') + 10
	}
	return -1
}

// isWithin asks for both signs in turn, since the least int has no magnitude.
func isWithin(n int, limit int) bool {
	return n >= -limit && n <= limit
}

func FormatInt(n int) string {
	return strconv.Itoa(n)
}

func ParseInt(s string) (int, bool) {
	n, err := strconv.Atoi(s)
	if err != nil || !isWithin(n, maxParsedInt) {
		return 0, false
	}
	// Formatting again rejects a plus sign, leading zeros and "-0".
	if FormatInt(n) != s {
		return 0, false
	}
	return n, true
}
