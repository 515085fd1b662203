package tests

import (
	"math"
	"math/rand"
	"strings"
	"testing"

	"loop.example/g03403/impl"
)

// part is what is known of a formula: its values at the inputs of five variables, and the texts of PushNegations of it and of its negation.
type part struct {
	values          []int
	leaves, depth   int
	pushed, negated string
}

func leafPart(c byte) part {
	p := part{values: make([]int, 32), leaves: 1, pushed: string(c), negated: "!" + string(c)}
	for x := range p.values {
		if c >= 'a' {
			p.values[x] = bitsOf(5, x)[c-'a']
		} else {
			p.values[x] = int(c - '0')
		}
	}
	switch c {
	case '0':
		p.negated = "1"
	case '1':
		p.negated = "0"
	}
	return p
}

func notPart(p part) part {
	q := part{values: make([]int, 32), leaves: p.leaves, depth: p.depth, pushed: p.negated, negated: p.pushed}
	for x, v := range p.values {
		q.values[x] = 1 - v
	}
	return q
}

func joinParts(c byte, p, q part) part {
	r := part{values: make([]int, 32), leaves: p.leaves + q.leaves, depth: max(p.depth, q.depth) + 1, pushed: string(c) + p.pushed + q.pushed}
	for x := range r.values {
		a, b := p.values[x], q.values[x]
		r.values[x] = map[byte]int{'&': min(a, b), '|': max(a, b), '^': (a + b) % 2}[c]
	}
	r.negated = map[byte]string{'&': "|" + p.negated + q.negated, '|': "&" + p.negated + q.negated, '^': "^" + p.negated + q.pushed}[c]
	return r
}

// readBackwards reads a formula of any length from its end, with the parts that are still open on a stack.
func readBackwards(s string) (part, bool) {
	var open []part
	for i := len(s) - 1; i >= 0; i-- {
		last := len(open) - 1
		switch c := s[i]; {
		case strings.IndexByte("abcde01", c) >= 0:
			open = append(open, leafPart(c))
		case c == '!' && last >= 0:
			open[last] = notPart(open[last])
		case strings.IndexByte("&|^", c) >= 0 && last >= 1:
			open = append(open[:last-1], joinParts(c, open[last], open[last-1]))
		default:
			return part{}, false
		}
	}
	if len(open) != 1 {
		return part{}, false
	}
	return open[0], true
}

// exchanged returns the text with & and |, and 0 and 1, exchanged.
func exchanged(s string) string {
	return strings.NewReplacer("&", "|", "|", "&", "0", "1", "1", "0").Replace(s)
}

// lettersIn returns 1 more than the greatest variable in the text, and the greatest number of times that one letter occurs.
func lettersIn(s string) (variables, times int) {
	for i, c := range []string{"a", "b", "c", "d", "e"} {
		if n := strings.Count(s, c); n > 0 {
			variables, times = i+1, max(times, n)
		}
	}
	return variables, times
}

// formulasUpTo returns all formulas of at most length bytes with these leaves.
func formulasUpTo(length int, leaves string) []string {
	by := make([][]string, length+1)
	by[1] = strings.Split(leaves, "")
	for k := 2; k <= length; k++ {
		for _, s := range by[k-1] {
			by[k] = append(by[k], "!"+s)
		}
		for i := 1; i < k-1; i++ {
			for _, s := range by[i] {
				for _, u := range by[k-1-i] {
					by[k] = append(by[k], "&"+s+u, "|"+s+u, "^"+s+u)
				}
			}
		}
	}
	var l []string
	for _, some := range by {
		l = append(l, some...)
	}
	return l
}

// randomFormula returns a formula of exactly length bytes with these leaves and these of &, | and ^.
func randomFormula(r *rand.Rand, length int, leaves, symbols string) string {
	switch {
	case length == 1:
		k := r.Intn(len(leaves))
		return leaves[k : k+1]
	case length == 2 || r.Intn(4) == 0:
		return "!" + randomFormula(r, length-1, leaves, symbols)
	}
	first := 1 + r.Intn(length-2)
	k := r.Intn(len(symbols))
	return symbols[k:k+1] + randomFormula(r, first, leaves, symbols) + randomFormula(r, length-1-first, leaves, symbols)
}

// longFormulas returns random formulas of all lengths from 1 to 60, of these also without ^.
func longFormulas() []string {
	r := rand.New(rand.NewSource(5))
	var l []string
	for length := 1; length <= 60; length++ {
		for range 12 {
			l = append(l, randomFormula(r, length, "abcde01", "&|^"), randomFormula(r, length, "abcde01", "&|"), randomFormula(r, length, "ab", "&|^"))
		}
	}
	return l
}

// someFormulas returns short formulas and long ones.
func someFormulas() []string {
	return append(formulasUpTo(5, "abe01"), longFormulas()...)
}

// chain returns the formula of all these parts, joined by one of &, | and ^ from the left to the right.
func chain(symbol string, parts ...string) string {
	return strings.Repeat(symbol, len(parts)-1) + strings.Join(parts, "")
}

// times returns a text n times.
func times(n int, s string) []string {
	l := make([]string, n)
	for i := range l {
		l[i] = s
	}
	return l
}

// checkNoFormula checks the results of all functions for a text that is no formula, or too long.
func checkNoFormula(t *testing.T, s string) {
	t.Helper()
	if impl.IsFormula(s) || impl.IsMonotoneFormula(s) || impl.IsReadOnce(s) {
		t.Fatalf("IsFormula(%q) = %v, IsMonotoneFormula = %v, IsReadOnce = %v", s, impl.IsFormula(s), impl.IsMonotoneFormula(s), impl.IsReadOnce(s))
	}
	if impl.LeavesOf(s) != -1 || impl.DepthOf(s) != -1 {
		t.Fatalf("LeavesOf(%q) = %d, DepthOf = %d", s, impl.LeavesOf(s), impl.DepthOf(s))
	}
	for n := -1; n <= 6; n++ {
		if f, ok := impl.TableOfFormula(s, n); ok || f != (impl.Table{}) {
			t.Fatalf("TableOfFormula(%q, %d) = %v, %v", s, n, f, ok)
		}
	}
	if u, ok := impl.PushNegations(s); ok || u != "" {
		t.Fatalf("PushNegations(%q) = %q, %v", s, u, ok)
	}
	if u, ok := impl.DualFormula(s); ok || u != "" {
		t.Fatalf("DualFormula(%q) = %q, %v", s, u, ok)
	}
}

// checkTables checks the tables for all numbers of variables.
func checkTables(t *testing.T, s string, p part) {
	t.Helper()
	least, _ := lettersIn(s)
	for n := range 6 {
		want := impl.Table{}
		if n >= least {
			want = tableOf(n, func(bits []int) int { return p.values[inputOf(bits)] })
		}
		if f, ok := impl.TableOfFormula(s, n); ok != (n >= least) || f != want {
			t.Fatalf("TableOfFormula(%q, %d) = %v, %v, want %v", s, n, f, ok, want)
		}
	}
}

// checkFormula checks the results of all functions for a formula of at most 60 bytes.
func checkFormula(t *testing.T, s string) {
	t.Helper()
	p, ok := readBackwards(s)
	if !ok || !impl.IsFormula(s) {
		t.Fatalf("IsFormula(%q) = %v, want %v", s, impl.IsFormula(s), ok)
	}
	checkTables(t, s, p)
	if impl.LeavesOf(s) != p.leaves || impl.DepthOf(s) != p.depth {
		t.Fatalf("LeavesOf(%q) = %d, DepthOf = %d, want %d and %d", s, impl.LeavesOf(s), impl.DepthOf(s), p.leaves, p.depth)
	}
	want := p.pushed
	if len(want) > 60 {
		want = ""
	}
	if u, ok := impl.PushNegations(s); u != want || ok != (want != "") {
		t.Fatalf("PushNegations(%q) = %q, %v, want %q", s, u, ok, want)
	}
	want = exchanged(s)
	if strings.Contains(s, "^") {
		want = ""
	}
	if u, ok := impl.DualFormula(s); u != want || ok != (want != "") {
		t.Fatalf("DualFormula(%q) = %q, %v, want %q", s, u, ok, want)
	}
	if impl.IsMonotoneFormula(s) != (!strings.Contains(s, "!") && !strings.Contains(s, "^")) {
		t.Fatalf("IsMonotoneFormula(%q) = %v", s, impl.IsMonotoneFormula(s))
	}
	if _, most := lettersIn(s); impl.IsReadOnce(s) != (most < 2) {
		t.Fatalf("IsReadOnce(%q) = %v", s, impl.IsReadOnce(s))
	}
}

// formulaTable fails the test where TableOfFormula returns false.
func formulaTable(t *testing.T, s string, n int) impl.Table {
	t.Helper()
	f, ok := impl.TableOfFormula(s, n)
	if !ok || !impl.IsTable(f) || f.Bits != n {
		t.Fatalf("TableOfFormula(%q, %d) = %v, %v", s, n, f, ok)
	}
	return f
}

func TestFormulasAreReadBackwardsAlike(t *testing.T) {
	for _, s := range append(someFormulas(), formulasUpTo(6, "c1")...) {
		checkFormula(t, s)
	}
}

// TestFormulasAreTheWrittenOnes reads all short strings of some symbols: of these, exactly the formulas are accepted.
func TestFormulasAreTheWrittenOnes(t *testing.T) {
	written := map[string]bool{}
	for _, s := range formulasUpTo(5, "ae01") {
		written[s] = true
	}
	for _, s := range append(stringsUpTo("ae01!&|^", 5), stringsUpTo("a!&fA2 \x00\xff", 4)...) {
		if written[s] {
			checkFormula(t, s)
		} else {
			checkNoFormula(t, s)
		}
	}
}

func TestFormulasReject(t *testing.T) {
	for _, s := range []string{
		"", " ", "!", "!!", "&", "|", "^", "&a", "|a", "^a", "&!", "&!a", "&&ab", "|&ab", "^a!", "!&a", "&a|b", "&a&b&c",
		"ab", "aa", "00", "01", "10", "a!", "!ab", "&abc", "|abc", "^abc", "&aba", "a&", "a&b", "a b", "0a", "a0", "!0!", "&ab!",
		"f", "g", "z", "A", "E", "`", "_", "2", "9", "/", ":", "-", "+", "*", "~", "(a)", "&a f", "&af", "|fa", "!f", "^A b", "{", "}",
		" a", "a ", "&ab ", "& ab", "a\n", "\na", "a\x00", "\x00a", "\x00", "\x80", "\xff", "\xffa", "a\xff", "&a\xff", "é", "aé", "&aé", "!é", "а", "１",
		"\x61\xcc\x81", "&a\x00b", "&\x00ab", "1.", "0x1", "-1", "true", "or", "and",
	} {
		checkNoFormula(t, s)
	}
	for _, s := range tails[1:] {
		checkNoFormula(t, s+"a")
		checkNoFormula(t, "&ab"+s)
	}
}

func TestFormulasOfOneByte(t *testing.T) {
	for _, s := range strings.Split("abcde01", "") {
		checkFormula(t, s)
	}
	for b := range 256 {
		s := string([]byte{byte(b)})
		if strings.IndexByte("abcde01", byte(b)) < 0 {
			checkNoFormula(t, s)
			checkNoFormula(t, "!"+s)
			checkNoFormula(t, "&a"+s)
			checkNoFormula(t, "|"+s+"1")
		}
		if strings.IndexByte("abcde01", byte(b)) < 0 && strings.IndexByte("!&|^", byte(b)) < 0 {
			checkNoFormula(t, s+"a")
			checkNoFormula(t, s+"ab")
		}
	}
}

// TestPartsOfFormulas cuts bytes off at either end of formulas, and puts others behind them.
func TestPartsOfFormulas(t *testing.T) {
	for _, s := range longFormulas() {
		for k := range len(s) {
			checkNoFormula(t, s[:k])
		}
		for _, tail := range []string{"a", "0", "!", "&", "!a", "&ab", " ", "\x00", "é"} {
			checkNoFormula(t, s+tail)
		}
		for k := 1; k < len(s); k++ {
			if _, ok := readBackwards(s[k:]); ok {
				checkFormula(t, s[k:])
			} else {
				checkNoFormula(t, s[k:])
			}
		}
	}
}

func TestTableOfFormulaOfLetters(t *testing.T) {
	for n := range 6 {
		for i, s := range []string{"a", "b", "c", "d", "e"} {
			want, valid := impl.VariableTable(n, i)
			if f, ok := impl.TableOfFormula(s, n); f != want || ok != valid {
				t.Errorf("TableOfFormula(%q, %d) = %v, %v, want %v, %v", s, n, f, ok, want, valid)
			}
		}
	}
}

// TestTableOfFormulaOfParts compares the tables with those that chapter 2 makes of the tables of the parts.
func TestTableOfFormulaOfParts(t *testing.T) {
	not, and, or, xor := algebra(t)
	l := append(formulasUpTo(3, "abd1"), longFormulas()[:120]...)
	for k, s := range l {
		for n := 5; n >= 0; n-- {
			f, ok := impl.TableOfFormula(s, n)
			if !ok {
				break
			}
			if got := formulaTable(t, "!"+s, n); got != not(f) {
				t.Fatalf("TableOfFormula(%q, %d) = %v", "!"+s, n, got)
			}
			for _, u := range l[max(0, k-40) : k+1] {
				g, ok := impl.TableOfFormula(u, n)
				if !ok {
					continue
				}
				for symbol, want := range map[string]impl.Table{"&": and(f, g), "|": or(f, g), "^": xor(f, g)} {
					if got := formulaTable(t, symbol+s+u, n); got != want {
						t.Fatalf("TableOfFormula(%q, %d) = %v, want %v", symbol+s+u, n, got, want)
					}
				}
			}
		}
	}
}

func TestTableOfFormulaReturnsTable(t *testing.T) {
	for _, c := range []struct {
		s    string
		n    int
		want string
	}{
		{"&ab", 2, "0001"},
		{"|ab", 2, "0111"},
		{"^ab", 2, "0110"},
		{"!a", 1, "10"},
		{"!b", 2, "1100"},
		{"&a!b", 2, "0100"},
		{"&!ab", 2, "0010"},
		{"|!ab", 2, "1011"},
		{"b", 3, "00110011"},
		{"&ac", 3, "00000101"},
		{"|&ab!^bc", 3, "11010011"},
		{"|&ab&!ac", 3, "00011011"},
		{"^^abc", 3, "01101001"},
		{"|&ab&c|ab", 3, "00010111"},
		{"&&ab&cd", 4, "0000000000000001"},
		{"e", 5, strings.Repeat("0", 16) + strings.Repeat("1", 16)},
		{"&&&&abcde", 5, strings.Repeat("0", 31) + "1"},
		{"^aa", 1, "00"},
		{"|a!a", 1, "11"},
		{"&a1", 1, "01"},
		{"^a1", 1, "10"},
	} {
		if got := impl.FormatTable(formulaTable(t, c.s, c.n)); got != c.want {
			t.Errorf("TableOfFormula(%q, %d) is %s, want %s", c.s, c.n, got, c.want)
		}
	}
}

// TestTableOfFormulaRejects has numbers of variables out of range, and letters of no variable, also where they do not change the values.
func TestTableOfFormulaRejects(t *testing.T) {
	reject := func(s string, n int) {
		if f, ok := impl.TableOfFormula(s, n); ok || f != (impl.Table{}) {
			t.Errorf("TableOfFormula(%q, %d) = %v, %v", s, n, f, ok)
		}
	}
	for _, s := range []string{"0", "1", "a", "e", "!0", "&ab", "|01", "x", ""} {
		for _, n := range append(outOfRange, 6, 7, 8, math.MinInt+5, -5, -6) {
			reject(s, n)
		}
	}
	for i, s := range []string{"a", "b", "c", "d", "e"} {
		for n := range i + 1 {
			for _, u := range []string{s, "!" + s, "!!" + s, "&0" + s, "&" + s + "0", "|1" + s, "|" + s + "1", "^" + s + s, "&&00" + s, "|&" + s + "0a", "^a&1" + s} {
				reject(u, n)
				if n == i {
					formulaTable(t, u, n+1)
				}
			}
		}
	}
}

func TestLeavesAndDepth(t *testing.T) {
	for _, c := range []struct {
		s             string
		leaves, depth int
	}{
		{"a", 1, 0},
		{"0", 1, 0},
		{"!!a", 1, 0},
		{"!!!1", 1, 0},
		{"&ab", 2, 1},
		{"|a0", 2, 1},
		{"^01", 2, 1},
		{"!&!a!b", 2, 1},
		{"&aa", 2, 1},
		{"&a&bc", 3, 2},
		{"&&abc", 3, 2},
		{"|&ab!^bc", 4, 2},
		{"&a|b^c!&d|e1", 6, 5},
		{"&|^&|01edcb", 6, 5},
		{"&|a^bc|d0", 5, 3},
		{"^&|abc!|de", 5, 3},
		{"|^&ab&cd^&0e!&11", 8, 3},
		{chain("&", times(30, "a")...), 30, 29},
		{"!" + chain("^", times(30, "1")...), 30, 29},
		{strings.Repeat("!", 59) + "e", 1, 0},
	} {
		if impl.LeavesOf(c.s) != c.leaves || impl.DepthOf(c.s) != c.depth {
			t.Errorf("LeavesOf(%q) = %d, DepthOf = %d, want %d and %d", c.s, impl.LeavesOf(c.s), impl.DepthOf(c.s), c.leaves, c.depth)
		}
	}
}

func TestPushNegationsReturnsFormula(t *testing.T) {
	for s, want := range map[string]string{
		"a":            "a",
		"!e":           "!e",
		"!!a":          "a",
		"!!!b":         "!b",
		"!!!!b":        "b",
		"!0":           "1",
		"!1":           "0",
		"!!1":          "1",
		"&ab":          "&ab",
		"!&ab":         "|!a!b",
		"!|ab":         "&!a!b",
		"!^ab":         "^!ab",
		"!^!ab":        "^ab",
		"!^a!b":        "^!a!b",
		"!^!a!b":       "^a!b",
		"^!a!b":        "^!a!b",
		"^!!a!!b":      "^ab",
		"!!^ab":        "^ab",
		"!^a!!b":       "^!ab",
		"!^^abc":       "^^!abc",
		"!^a^bc":       "^!a^bc",
		"!^a!^bc":      "^!a^!bc",
		"!^&ab|cd":     "^|!a!b|cd",
		"!^&ab!|cd":    "^|!a!b&!c!d",
		"!|&ab!c":      "&|!a!bc",
		"!&0!a":        "|1a",
		"!|1^a0":       "&0^!a0",
		"!&!&ab!|cd":   "|&ab|cd",
		"&!&ab!|cd":    "&|!a!b&!c!d",
		"|!0!1":        "|10",
		"!^01":         "^11",
		"!^10":         "^00",
		"^0!1":         "^00",
		"!&&&abcd":     "|||!a!b!c!d",
		"!|a&b|c&d1":   "&!a|!b&!c|!d0",
		"&a!|b!&c!|de": "&a&!b&c&!d!e",
	} {
		if got, ok := impl.PushNegations(s); !ok || got != want {
			t.Errorf("PushNegations(%q) = %q, %v, want %q", s, got, ok, want)
		}
	}
}

// TestPushNegationsKeepsTable checks what does not change, without another way to push.
func TestPushNegationsKeepsTable(t *testing.T) {
	pushed := 0
	for _, s := range append(someFormulas(), formulasUpTo(6, "d0")...) {
		u, ok := impl.PushNegations(s)
		if !ok {
			if u != "" || len(s) < 40 {
				t.Fatalf("PushNegations(%q) = %q, %v", s, u, ok)
			}
			continue
		}
		pushed++
		if !impl.IsFormula(u) || impl.LeavesOf(u) != impl.LeavesOf(s) || impl.DepthOf(u) != impl.DepthOf(s) {
			t.Fatalf("PushNegations(%q) = %q", s, u)
		}
		least, _ := lettersIn(s)
		for n := least; n <= 5; n++ {
			if formulaTable(t, u, n) != formulaTable(t, s, n) {
				t.Fatalf("PushNegations(%q) = %q has another table of %d variables", s, u, n)
			}
		}
		leaves := strings.NewReplacer("!", "", "&", "", "|", "", "^", "", "1", "0")
		if leaves.Replace(u) != leaves.Replace(s) {
			t.Fatalf("PushNegations(%q) = %q has other letters", s, u)
		}
		for _, wrong := range []string{"!!", "!0", "!1", "!&", "!|", "!^"} {
			if strings.Contains(u, wrong) {
				t.Fatalf("PushNegations(%q) = %q", s, u)
			}
		}
		if again, ok := impl.PushNegations(u); !ok || again != u {
			t.Fatalf("PushNegations(%q) = %q, %v", u, again, ok)
		}
	}
	if pushed < 1000 {
		t.Errorf("only %d formulas are pushed", pushed)
	}
}

// TestPushNegationsOfNegation compares the tables of a formula and of its negation after both are pushed down.
func TestPushNegationsOfNegation(t *testing.T) {
	not, _, _, _ := algebra(t)
	for _, s := range formulasUpTo(5, "ac1") {
		u, ok := impl.PushNegations("!" + s)
		if !ok || formulaTable(t, u, 3) != not(formulaTable(t, s, 3)) {
			t.Fatalf("PushNegations(%q) = %q, %v", "!"+s, u, ok)
		}
		twice, okTwice := impl.PushNegations("!!" + s)
		once, okOnce := impl.PushNegations(s)
		if !okTwice || !okOnce || twice != once {
			t.Fatalf("PushNegations(%q) = %q, but %q without both", "!!"+s, twice, once)
		}
	}
}

// TestPushNegationsGrows has formulas of at most 60 bytes whose results have 59, 60, 61 and more.
func TestPushNegationsGrows(t *testing.T) {
	for _, c := range []struct {
		letters, constants, length int
	}{{20, 0, 59}, {19, 2, 60}, {20, 1, 61}, {21, 0, 62}, {30, 0, 89}, {1, 28, 58}, {2, 27, 59}, {3, 26, 60}, {4, 25, 61}, {0, 30, 59}} {
		for _, symbol := range []string{"&", "|"} {
			parts := append(times(c.letters, "b"), times(c.constants, "0")...)
			s := "!" + chain(symbol, parts...)
			want := chain(exchanged(symbol), append(times(c.letters, "!b"), times(c.constants, "1")...)...)
			if len(s) > 60 || len(want) != c.length {
				t.Fatalf("%q and %q are no example", s, want)
			}
			checkFormula(t, s)
			if c.length > 60 {
				want = ""
			}
			if got, ok := impl.PushNegations(s); got != want || ok != (c.length <= 60) {
				t.Errorf("PushNegations(%q) = %q, %v", s, got, ok)
			}
			if got := impl.LeavesOf(s); got != c.letters+c.constants {
				t.Errorf("LeavesOf(%q) = %d", s, got)
			}
		}
	}
}

// TestFormulasOf60Bytes has formulas of exactly 60 bytes, and each with one more.
func TestFormulasOf60Bytes(t *testing.T) {
	r := rand.New(rand.NewSource(6))
	l := []string{
		strings.Repeat("!", 59) + "a",
		strings.Repeat("!", 59) + "0",
		"!" + chain("&", times(30, "a")...),
		"!" + chain("^", times(30, "e")...),
		strings.Repeat("|c", 29) + "!1",
		strings.Repeat("&", 20) + strings.Repeat("!a", 19) + "ab",
		strings.Repeat("^d", 29) + "!d",
		strings.Repeat("!&", 19) + "!!" + strings.Repeat("b", 19) + "0",
	}
	for range 300 {
		l = append(l, randomFormula(r, 60, "abcde01", "&|^"))
	}
	for _, s := range l {
		if len(s) != 60 {
			t.Fatalf("%q has %d bytes", s, len(s))
		}
		checkFormula(t, s)
		checkNoFormula(t, "!"+s)
		checkNoFormula(t, "!!"+s)
		checkNoFormula(t, "&a"+s)
		checkNoFormula(t, s+s)
		checkNoFormula(t, s+"a")
		checkNoFormula(t, s[:59])
	}
	pushed := l[5]
	if u, ok := impl.PushNegations(pushed); !ok || u != pushed {
		t.Errorf("PushNegations(%q) = %q, %v", pushed, u, ok)
	}
}

// TestFormulasOfMoreBytes has formulas that are only too long, up to many bytes.
func TestFormulasOfMoreBytes(t *testing.T) {
	r := rand.New(rand.NewSource(7))
	for range 200 {
		s := randomFormula(r, 61, "abcde01", "&|^")
		if _, ok := readBackwards(s); !ok {
			t.Fatalf("%q is no example", s)
		}
		checkNoFormula(t, s)
	}
	for _, n := range []int{30, 31, 60, 61, 100, 1000, 1 << 16, 1 << 20} {
		checkNoFormula(t, strings.Repeat("&", n)+strings.Repeat("a", n+1))
		checkNoFormula(t, strings.Repeat("|a", n)+"0")
		checkNoFormula(t, strings.Repeat("^", n))
		checkNoFormula(t, strings.Repeat("!", n))
		checkNoFormula(t, strings.Repeat("!", n+30)+"a")
		checkNoFormula(t, strings.Repeat("!a", n))
		checkNoFormula(t, strings.Repeat("\xff", n))
	}
	for _, s := range []string{chain("&", times(31, "a")...), chain("|", times(31, "0")...), chain("^", times(31, "e")...)} {
		if len(s) != 61 {
			t.Fatalf("%q has %d bytes", s, len(s))
		}
		checkNoFormula(t, s)
	}
}

// TestManyExclamationMarks has them one behind another, before a letter, before a constant, and before and below the other symbols.
func TestManyExclamationMarks(t *testing.T) {
	for k := range 80 {
		marks := strings.Repeat("!", k)
		for _, c := range [][3]string{{"a", "a", "!a"}, {"e", "e", "!e"}, {"0", "0", "1"}, {"1", "1", "0"}, {"&ab", "&ab", "|!a!b"}, {"^ab", "^ab", "^!ab"}, {"|0!c", "|0!c", "&1c"}} {
			s := marks + c[0]
			if len(s) > 60 {
				checkNoFormula(t, s)
				continue
			}
			checkFormula(t, s)
			if got, ok := impl.PushNegations(s); !ok || got != c[1+k%2] {
				t.Errorf("PushNegations(%q) = %q, %v", s, got, ok)
			}
		}
		if s := "^" + marks + "a" + marks + "b"; len(s) <= 60 {
			checkFormula(t, s)
			if got, _ := impl.PushNegations(s); got != []string{"^ab", "^!a!b"}[k%2] {
				t.Errorf("PushNegations(%q) = %q", s, got)
			}
		}
	}
}

func TestIsMonotoneFormula(t *testing.T) {
	for s, want := range map[string]bool{
		"a": true, "e": true, "0": true, "1": true, "&ab": true, "|ab": true, "|&ab1": true, "&|ab|c0": true, "&aa": true,
		"!a": false, "!!a": false, "!0": false, "!1": false, "^ab": false, "^00": false, "^a0": false, "&a!b": false, "&!ab": false,
		"|a^bc": false, "|^bca": false, "!&ab": false, "&a!!b": false, "&ab!": false, "&a": false, "": false, "f": false, "ab": false,
		strings.Repeat("&a", 29) + "1":    true,
		strings.Repeat("&a", 29) + "!1":   false,
		strings.Repeat("|", 29) + "abcde": false,
		chain("|", times(31, "a")...):     false,
	} {
		if impl.IsMonotoneFormula(s) != want {
			t.Errorf("IsMonotoneFormula(%q) = %v", s, !want)
		}
	}
}

// TestMonotoneFormulasHaveMonotoneTables changes single variables from 0 to 1.
func TestMonotoneFormulasHaveMonotoneTables(t *testing.T) {
	for _, s := range someFormulas() {
		if !impl.IsMonotoneFormula(s) {
			continue
		}
		l := values(formulaTable(t, s, 5))
		for x, v := range l {
			for i := range 5 {
				if bits := bitsOf(5, x); bits[i] == 0 && v > l[x+1<<i] {
					t.Fatalf("%q is not monotone", s)
				}
			}
		}
	}
}

func TestIsReadOnce(t *testing.T) {
	for s, want := range map[string]bool{
		"a": true, "e": true, "0": true, "1": true, "!a": true, "!!!a": true, "&ab": true, "^ab": true, "&00": true, "|11": true, "^0|00": true,
		"&a|b0": true, "&a|b&c|de": true, "&0|0&1|1a": true, "&a!b": true, "&&&&edcba": true, "|^ac&b0": true,
		"&aa": false, "|bb": false, "^cc": false, "&dd": false, "&ee": false, "|a!a": false, "&a|ba": false, "&e|be": false, "^&ab&cb": false,
		"&&&&&abcdee": false, "&&&&&aabcde": false, "&&aaa": false, "&&&aaaa": false, "&&0a&1a": false,
		"": false, "ab": false, "&a": false, "f": false, "&ab ": false,
		chain("&", append(times(25, "0"), "a", "b", "c", "d", "e")...): true,
		chain("&", times(31, "0")...):                                  false,
	} {
		if impl.IsReadOnce(s) != want {
			t.Errorf("IsReadOnce(%q) = %v", s, !want)
		}
	}
}

func TestDualFormulaReturnsFormula(t *testing.T) {
	for s, want := range map[string]string{
		"a":         "a",
		"!a":        "!a",
		"!!e":       "!!e",
		"0":         "1",
		"1":         "0",
		"!0":        "!1",
		"!!1":       "!!0",
		"&ab":       "|ab",
		"|ab":       "&ab",
		"|&a!b1":    "&|a!b0",
		"!&a|b&c0":  "!|a&b|c1",
		"&&01|10":   "||10&01",
		"|&|&abcde": "&|&|abcde",
	} {
		if got, ok := impl.DualFormula(s); !ok || got != want {
			t.Errorf("DualFormula(%q) = %q, %v, want %q", s, got, ok, want)
		}
	}
	for _, s := range []string{"^ab", "^01", "!^ab", "&a^bc", "|^bca", "!!^aa", "&&&ab0^11", "&a!^bc"} {
		if got, ok := impl.DualFormula(s); ok || got != "" {
			t.Errorf("DualFormula(%q) = %q, %v", s, got, ok)
		}
	}
}

// TestDualsHaveDualTables negates the values and the variables of the table.
func TestDualsHaveDualTables(t *testing.T) {
	not, _, _, _ := algebra(t)
	duals := 0
	for _, s := range append(someFormulas(), formulasUpTo(6, "d0")...) {
		if strings.Contains(s, "^") {
			continue
		}
		u, ok := impl.DualFormula(s)
		if !ok || len(u) != len(s) || !impl.IsFormula(u) {
			t.Fatalf("DualFormula(%q) = %q, %v", s, u, ok)
		}
		duals++
		if impl.LeavesOf(u) != impl.LeavesOf(s) || impl.DepthOf(u) != impl.DepthOf(s) || impl.IsReadOnce(u) != impl.IsReadOnce(s) || impl.IsMonotoneFormula(u) != impl.IsMonotoneFormula(s) {
			t.Fatalf("DualFormula(%q) = %q", s, u)
		}
		least, _ := lettersIn(s)
		for n := least; n <= 5; n++ {
			f := formulaTable(t, s, n)
			if got := formulaTable(t, u, n); got != not(tables{t}.shift(f, 1<<n-1)) {
				t.Fatalf("DualFormula(%q) = %q has the table %v", s, u, got)
			}
		}
		if again, ok := impl.DualFormula(u); !ok || again != s {
			t.Fatalf("DualFormula(%q) = %q, %v, want %q", u, again, ok, s)
		}
	}
	if duals < 500 {
		t.Errorf("only %d formulas have duals", duals)
	}
}

// TestPushedNegationIsDualOfNegatedLetters has two ways to negate a formula without ^.
func TestPushedNegationIsDualOfNegatedLetters(t *testing.T) {
	negate := strings.NewReplacer("a", "!a", "b", "!b", "c", "!c")
	for _, s := range formulasUpTo(6, "ab0") {
		u, ok := impl.DualFormula(s)
		if !ok {
			continue
		}
		one, _ := impl.PushNegations("!" + s)
		two, okTwo := impl.PushNegations(negate.Replace(u))
		if !okTwo || one != two {
			t.Fatalf("the negation of %q is %q and %q", s, one, two)
		}
	}
}

// TestConstantAlone has the constants with all numbers of variables, also with none.
func TestConstantAlone(t *testing.T) {
	for v, s := range []string{"0", "1"} {
		other := []string{"1", "0"}[v]
		for n := range 6 {
			constant := impl.Table{Bits: n, Word: v * (1<<(1<<n) - 1)}
			negated := impl.Table{Bits: n, Word: (1 - v) * (1<<(1<<n) - 1)}
			if formulaTable(t, s, n) != constant || formulaTable(t, "!"+s, n) != negated || formulaTable(t, "!!"+s, n) != constant || !impl.IsConstant(formulaTable(t, s, n)) {
				t.Errorf("TableOfFormula(%q, %d) is no constant", s, n)
			}
		}
		if !impl.IsFormula(s) || impl.LeavesOf(s) != 1 || impl.DepthOf(s) != 0 || !impl.IsMonotoneFormula(s) || impl.IsMonotoneFormula("!"+s) || !impl.IsReadOnce(s) || !impl.IsReadOnce("!"+s) {
			t.Errorf("%q is no constant alone", s)
		}
		for formula, want := range map[string]string{s: s, "!" + s: other, "!!" + s: s, "!" + other: s} {
			if u, ok := impl.PushNegations(formula); !ok || u != want {
				t.Errorf("PushNegations(%q) = %q, %v", formula, u, ok)
			}
		}
		if u, ok := impl.DualFormula(s); !ok || u != other {
			t.Errorf("DualFormula(%q) = %q, %v", s, u, ok)
		}
	}
	for s, want := range map[string]string{"&01": "0", "&11": "1", "|01": "1", "|00": "0", "^10": "1", "^11": "0", "!&10": "1", "|0!0": "1"} {
		if got := impl.FormatTable(formulaTable(t, s, 0)); got != want {
			t.Errorf("TableOfFormula(%q, 0) is %s", s, got)
		}
	}
}
