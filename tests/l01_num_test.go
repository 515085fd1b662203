package tests

import (
	"math"
	"math/rand"
	"strconv"
	"strings"
	"testing"

	"loop.example/g03403/impl"
)

// Bytes that might be mistaken for a continuation, an end or a digit.
var tails = []string{"", "\x00", "\x01", "\x7f", "\x80", "\xff", "0", "é", "\x80\x00 and more"}

// stringsUpTo returns all strings of at most length symbols, each of which is one byte of symbols.
func stringsUpTo(symbols string, length int) []string {
	all := []string{""}
	last := all
	for range length {
		var next []string
		for _, s := range last {
			for i := range len(symbols) {
				next = append(next, s+symbols[i:i+1])
			}
		}
		all = append(all, next...)
		last = next
	}
	return all
}

func allBytes() string {
	b := make([]byte, 256)
	for i := range b {
		b[i] = byte(i)
	}
	return string(b)
}

// numbersAround returns the least and the greatest numbers of up to bits bits, their neighbours, and some between them.
func numbersAround(bits int) []int {
	r := rand.New(rand.NewSource(1))
	l := []int{0, 1, 2, 9, 10, 99, 127, 128, 255, 256, 300}
	for k := 1; k <= bits; k++ {
		l = append(l, 1<<(k-1), 1<<k-1, r.Intn(1<<k), r.Intn(1<<k))
	}
	return l
}

func TestEncodeFixedReturnsBytes(t *testing.T) {
	for _, c := range []struct {
		n, width int
		want     string
	}{
		{258, 2, "\x01\x02"},
		{0, 1, "\x00"},
		{0, 7, "\x00\x00\x00\x00\x00\x00\x00"},
		{255, 1, "\xff"},
		{255, 3, "\x00\x00\xff"},
		{256, 2, "\x01\x00"},
		{65535, 2, "\xff\xff"},
		{0x01020304050607, 7, "\x01\x02\x03\x04\x05\x06\x07"},
		{0xfedcba98765432, 7, "\xfe\xdc\xba\x98\x76\x54\x32"},
		{1<<56 - 1, 7, "\xff\xff\xff\xff\xff\xff\xff"},
	} {
		if got := impl.EncodeFixed(c.n, c.width); got != c.want {
			t.Errorf("EncodeFixed(%d, %d) = %q, want %q", c.n, c.width, got, c.want)
		}
	}
}

func TestFixedIsReadBack(t *testing.T) {
	for width := 1; width <= 7; width++ {
		for _, n := range numbersAround(8 * width) {
			if n >= 1<<(8*width) {
				continue
			}
			s := impl.EncodeFixed(n, width)
			if len(s) != width {
				t.Errorf("EncodeFixed(%d, %d) has %d bytes", n, width, len(s))
			}
			for _, tail := range tails {
				if got, ok := impl.DecodeFixed(s+tail, width); got != n || !ok {
					t.Errorf("DecodeFixed(%q, %d) = %d, %v, want %d", s+tail, width, got, ok, n)
				}
			}
		}
	}
}

func TestFixedStringsAreWrittenBack(t *testing.T) {
	symbols := "\x00\x01\x7f\x80\xff"
	for _, s := range stringsUpTo(symbols, 5) {
		for width := 1; width <= 7; width++ {
			n, ok := impl.DecodeFixed(s, width)
			if ok != (len(s) >= width) {
				t.Fatalf("DecodeFixed(%q, %d) returns %v", s, width, ok)
			}
			if ok && impl.EncodeFixed(n, width) != s[:width] {
				t.Fatalf("DecodeFixed(%q, %d) = %d, which is written otherwise", s, width, n)
			}
			if !ok && n != 0 {
				t.Fatalf("DecodeFixed(%q, %d) fails with %d", s, width, n)
			}
		}
	}
}

func TestFixedRejects(t *testing.T) {
	for _, width := range []int{math.MinInt, -8, -1, 0, 8, 9, 64, math.MaxInt} {
		for _, n := range []int{0, 1, 258} {
			if got := impl.EncodeFixed(n, width); got != "" {
				t.Errorf("EncodeFixed(%d, %d) = %q", n, width, got)
			}
		}
		for _, s := range []string{"", "\x01", "123456789", strings.Repeat("\x01", 100)} {
			if n, ok := impl.DecodeFixed(s, width); n != 0 || ok {
				t.Errorf("DecodeFixed(%q, %d) = %d, %v", s, width, n, ok)
			}
		}
	}
	for width := 1; width <= 7; width++ {
		for _, n := range []int{math.MinInt, -256, -1, 1 << (8 * width), 1<<(8*width) + 1, math.MaxInt} {
			if got := impl.EncodeFixed(n, width); got != "" {
				t.Errorf("EncodeFixed(%d, %d) = %q", n, width, got)
			}
		}
		for short := range width {
			s := strings.Repeat("\x01", short)
			if n, ok := impl.DecodeFixed(s, width); n != 0 || ok {
				t.Errorf("DecodeFixed(%q, %d) = %d, %v", s, width, n, ok)
			}
		}
	}
}

func TestEncodeVarintReturnsBytes(t *testing.T) {
	for _, c := range []struct {
		n    int
		want string
	}{
		{0, "\x00"},
		{1, "\x01"},
		{127, "\x7f"},
		{128, "\x80\x01"},
		{300, "\xac\x02"},
		{16383, "\xff\x7f"},
		{16384, "\x80\x80\x01"},
		{1 << 42, "\x80\x80\x80\x80\x80\x80\x01"},
		{impl.MaxVarint, "\xff\xff\xff\xff\xff\xff\x7f"},
	} {
		if got := impl.EncodeVarint(c.n); got != c.want {
			t.Errorf("EncodeVarint(%d) = %q, want %q", c.n, got, c.want)
		}
	}
	if impl.MaxVarint != 562949953421311 {
		t.Errorf("MaxVarint is %d", impl.MaxVarint)
	}
}

func TestVarintIsReadBack(t *testing.T) {
	numbers := numbersAround(49)
	for n := range 20000 {
		numbers = append(numbers, n)
	}
	for _, n := range append(numbers, impl.MaxVarint-1, impl.MaxVarint) {
		s := impl.EncodeVarint(n)
		if s == "" {
			t.Errorf("EncodeVarint(%d) is empty", n)
		}
		for _, tail := range tails {
			if got, length := impl.DecodeVarint(s + tail); got != n || length != len(s) {
				t.Errorf("DecodeVarint(%q) = %d, %d, want %d, %d", s+tail, got, length, n, len(s))
			}
		}
	}
}

func TestEncodeVarintRejects(t *testing.T) {
	for _, n := range []int{math.MinInt, -300, -128, -1, impl.MaxVarint + 1, impl.MaxVarint + 2, 1 << 56, math.MaxInt} {
		if got := impl.EncodeVarint(n); got != "" {
			t.Errorf("EncodeVarint(%d) = %q", n, got)
		}
	}
}

func TestDecodeVarintRejects(t *testing.T) {
	l := []string{
		"",
		// Unnecessary bytes.
		"\x80\x00",
		"\x81\x00",
		"\xff\x00",
		"\xac\x82\x00",
		"\x80\x80\x00",
		"\x80\x80\x80\x80\x80\x80\x00",
		"\xff\xff\xff\xff\xff\xff\x80\x00",
		// Numbers beyond MaxVarint.
		"\x80\x80\x80\x80\x80\x80\x80\x01",
		"\xff\xff\xff\xff\xff\xff\xff\x01",
		"\x80\x80\x80\x80\x80\x80\x80\x80\x80\x01",
		"\xff\xff\xff\xff\xff\xff\xff\xff\xff\x01",
		strings.Repeat("\x80", 100) + "\x01",
	}
	for k := 1; k <= 12; k++ {
		l = append(l, strings.Repeat("\x80", k), strings.Repeat("\xff", k))
	}
	for _, s := range l {
		if n, length := impl.DecodeVarint(s); n != 0 || length != 0 {
			t.Errorf("DecodeVarint(%q) = %d, %d", s, n, length)
		}
	}
	for _, s := range l {
		if n, length := impl.DecodeVarint(s + "\x80"); n != 0 || length != 0 {
			t.Errorf("DecodeVarint(%q) = %d, %d", s+"\x80", n, length)
		}
	}
}

// checkVarint compares DecodeVarint with the definition: a prefix that EncodeVarint returns, which can only end at the first byte without 128 added.
func checkVarint(t *testing.T, s string) {
	n, length := impl.DecodeVarint(s)
	if length < 0 || length > len(s) || length == 0 && n != 0 {
		t.Fatalf("DecodeVarint(%q) = %d, %d", s, n, length)
	}
	if length > 0 && impl.EncodeVarint(n) != s[:length] {
		t.Fatalf("DecodeVarint(%q) = %d, %d, which is written otherwise", s, n, length)
	}
	end := strings.IndexFunc(s, func(r rune) bool { return r < 128 })
	readable := end == 0 || end > 0 && end < 7 && s[end] != 0
	if readable != (length > 0) {
		t.Fatalf("DecodeVarint(%q) = %d, %d", s, n, length)
	}
}

func TestVarintStringsAreWrittenBack(t *testing.T) {
	for _, s := range stringsUpTo(allBytes(), 2) {
		checkVarint(t, s)
	}
	for _, s := range stringsUpTo("\x00\x01\x80\xff", 9) {
		checkVarint(t, s)
	}
}

func TestHexOfAllBytes(t *testing.T) {
	if impl.EncodeHex("") != "" || impl.EncodeHex("a\xff") != "61ff" || impl.EncodeHex("é\x00\x0f\xf0\x80") != "c3a9000ff080" {
		t.Error("EncodeHex returns other digits")
	}
	for i := range 256 {
		want := strconv.FormatInt(int64(i+256), 16)[1:]
		if got := impl.EncodeHex(string([]byte{byte(i)})); got != want {
			t.Errorf("EncodeHex of the byte %d = %q, want %q", i, got, want)
		}
	}
}

func TestHexIsReadBack(t *testing.T) {
	l := append(stringsUpTo(allBytes(), 2), allBytes(), "世界é", strings.Repeat("\xf0\x9f", 5000))
	for _, s := range l {
		h := impl.EncodeHex(s)
		if len(h) != 2*len(s) {
			t.Errorf("EncodeHex(%q) = %q", s, h)
		}
		if got, ok := impl.DecodeHex(h); got != s || !ok {
			t.Errorf("DecodeHex(%q) = %q, %v, want %q", h, got, ok, s)
		}
	}
}

// TestHexStringsAreWrittenBack reads all strings of two bytes: of these, only those of lower-case digits are accepted.
func TestHexStringsAreWrittenBack(t *testing.T) {
	accepted := 0
	for _, s := range stringsUpTo(allBytes(), 2) {
		got, ok := impl.DecodeHex(s)
		if ok && impl.EncodeHex(got) != s {
			t.Errorf("DecodeHex(%q) = %q, which is written otherwise", s, got)
		}
		if !ok && got != "" {
			t.Errorf("DecodeHex(%q) fails with %q", s, got)
		}
		if ok {
			accepted++
		}
	}
	if accepted != 1+256 {
		t.Errorf("%d strings accepted", accepted)
	}
}

func TestDecodeHexRejects(t *testing.T) {
	for _, s := range []string{
		"6", "616", "61ff0", // an odd number of digits
		"6F", "F6", "61FF", "aB", "AB", // upper-case digits
		"g0", "0g", "0x61", " 61", "61 ", "6 1f", "-1", "+1", "61\n",
		"/0", "0/", ":0", "0:", "`0", "0`", "@0",
		"é", "0é0", "\xff\xff", "00\xff\xff", "\x00\x00", "１２", "٣", "6161616161zz",
	} {
		if got, ok := impl.DecodeHex(s); got != "" || ok {
			t.Errorf("DecodeHex(%q) = %q, %v", s, got, ok)
		}
	}
}

func TestFormatIntReturnsDecimals(t *testing.T) {
	for _, c := range []struct {
		n    int
		want string
	}{
		{0, "0"},
		{7, "7"},
		{-7, "-7"},
		{10, "10"},
		{-120, "-120"},
		{999999999, "999999999"},
		{1000000000, "1000000000"},
		{math.MaxInt, "9223372036854775807"},
		{math.MinInt + 1, "-9223372036854775807"},
		{math.MinInt, "-9223372036854775808"},
	} {
		if got := impl.FormatInt(c.n); got != c.want {
			t.Errorf("FormatInt(%d) = %q, want %q", c.n, got, c.want)
		}
	}
}

func TestIntIsReadBack(t *testing.T) {
	numbers := []int{99999999, 100000000, 123456789, 999999998, 999999999}
	for n := range 20000 {
		numbers = append(numbers, n)
	}
	for _, n := range append(numbers, numbersAround(29)...) {
		for _, signed := range []int{n, -n} {
			s := impl.FormatInt(signed)
			if got, ok := impl.ParseInt(s); got != signed || !ok {
				t.Errorf("ParseInt(%q) = %d, %v", s, got, ok)
			}
		}
	}
}

// TestIntStringsAreWrittenBack reads all short strings of some symbols: of these, exactly the results of FormatInt are accepted.
func TestIntStringsAreWrittenBack(t *testing.T) {
	formats := map[string]int{}
	for n := -99999; n <= 99999; n++ {
		formats[strconv.Itoa(n)] = n
	}
	for _, s := range stringsUpTo("-+0189 _ax.\xd9\xa3", 5) {
		n, ok := impl.ParseInt(s)
		want, valid := formats[s]
		if n != want || ok != valid {
			t.Fatalf("ParseInt(%q) = %d, %v, want %d, %v", s, n, ok, want, valid)
		}
	}
}

func TestParseIntRejects(t *testing.T) {
	l := []string{
		"", "-", "+", "--", "-+1", "--1", "+1", "+0", "-0", "-00", "00", "01", "07", "-07", "-01", "000000001", "0999999999",
		"1000000000", "-1000000000", "9999999999", "-9999999999", "4294967297", "9223372036854775807", "-9223372036854775808",
		"9223372036854775808", "18446744073709551617", strings.Repeat("1", 1000), strings.Repeat("0", 1000),
		" 1", "1 ", "1\n", "\x001", "1-", "1-2", "1_0", "1,0", "1.0", "1e3", "0x1", "0b1", "0o7", "a", "٣", "１", "\xff", "1\xff", "−1",
	}
	for _, s := range l {
		if n, ok := impl.ParseInt(s); n != 0 || ok {
			t.Errorf("ParseInt(%q) = %d, %v", s, n, ok)
		}
	}
	for _, n := range []int{math.MinInt, math.MaxInt, -1 << 32, 1 << 32} {
		if got, ok := impl.ParseInt(impl.FormatInt(n)); got != 0 || ok {
			t.Errorf("ParseInt(%q) = %d, %v", impl.FormatInt(n), got, ok)
		}
	}
}
