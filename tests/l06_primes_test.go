package tests

import (
	"cmp"
	"math"
	"math/rand"
	"slices"
	"strings"
	"testing"

	"loop.example/g03403/impl"
)

// cube has for each variable its value in a term, or 2 where the term does not have it.
type cube []int

// cubesOf returns all cubes of n variables.
func cubesOf(n int) []cube {
	l := []cube{{}}
	for range n {
		var next []cube
		for _, c := range l {
			for v := range 3 {
				next = append(next, append(slices.Clone(c), v))
			}
		}
		l = next
	}
	return l
}

func (c cube) term() impl.Term {
	var t impl.Term
	for i, v := range c {
		if v < 2 {
			t.Mask += 1 << i
			t.Value += v * (1 << i)
		}
	}
	return t
}

func (c cube) text() string {
	var parts []string
	for i, v := range c {
		parts = append(parts, []string{"!", "", ""}[v]+[]string{"abcde"[i : i+1], ""}[v/2])
	}
	if s := strings.Join(parts, ""); s != "" {
		return s
	}
	return "1"
}

func (c cube) holds(bits []int) bool {
	for i, v := range c {
		if v < 2 && bits[i] != v {
			return false
		}
	}
	return true
}

// implies reports whether the term holds for inputs with the value 1 only.
func (c cube) implies(f impl.Table) bool {
	for x, v := range values(f) {
		if v == 0 && c.holds(bitsOf(f.Bits, x)) {
			return false
		}
	}
	return true
}

func compareTerms(a, b impl.Term) int {
	return cmp.Or(cmp.Compare(a.Mask, b.Mask), cmp.Compare(a.Value, b.Value))
}

// merged returns the prime terms of f in order: the inputs with the value 1 are joined in pairs that differ in one variable, and these again, until there is nothing to join.
func merged(f impl.Table) []impl.Term {
	var primes []impl.Term
	level := map[[5]int]bool{}
	for x, v := range values(f) {
		if v == 1 {
			c := [5]int{2, 2, 2, 2, 2}
			copy(c[:], bitsOf(f.Bits, x))
			level[c] = true
		}
	}
	for len(level) > 0 {
		next := map[[5]int]bool{}
		for c := range level {
			joined := false
			for i := range f.Bits {
				other := c
				other[i] = 1 - c[i]
				if c[i] < 2 && level[other] {
					joined = true
					other[i] = 2
					next[other] = true
				}
			}
			if !joined {
				primes = append(primes, cube(c[:]).term())
			}
		}
		level = next
	}
	slices.SortFunc(primes, compareTerms)
	return primes
}

// onesOf returns, for each input of n variables, how many of the terms hold for it.
func onesOf(n int, l []impl.Term) []int {
	counts := make([]int, 1<<n)
	for _, c := range cubesOf(n) {
		if slices.Contains(l, c.term()) {
			for x := range counts {
				if c.holds(bitsOf(n, x)) {
					counts[x]++
				}
			}
		}
	}
	return counts
}

// choices returns the lists of indices below n, in lexicographic order.
func choices(n int) [][]int {
	l := make([][]int, 1<<n)
	for set := range l {
		for i := range n {
			if set/(1<<i)%2 == 1 {
				l[set] = append(l[set], i)
			}
		}
	}
	slices.SortFunc(l, slices.Compare[[]int])
	return l
}

// leastChoice tries all choices of the terms for the shortest ones that have the table, and returns the first of these and their number.
func leastChoice(t *testing.T, f impl.Table, l []impl.Term) ([]impl.Term, int) {
	t.Helper()
	words := make([]int, len(l))
	for k := range l {
		words[k] = termsTable(t, f.Bits, l[k:k+1]).Word
	}
	var best []int
	found := 0
	for _, indices := range choices(len(l)) {
		word := 0
		for _, k := range indices {
			word |= words[k]
		}
		switch {
		case word != f.Word || found > 0 && len(indices) > len(best):
		case found == 0 || len(indices) < len(best):
			best, found = indices, 1
		default:
			found++
		}
	}
	var sum []impl.Term
	for _, k := range best {
		sum = append(sum, l[k])
	}
	return sum, found
}

func primesOf(t *testing.T, f impl.Table) []impl.Term {
	t.Helper()
	l, ok := impl.PrimesOf(f)
	if !ok {
		t.Fatalf("PrimesOf(%v) = %v, %v", f, l, ok)
	}
	return l
}

func essentialPrimes(t *testing.T, f impl.Table) []impl.Term {
	t.Helper()
	l, ok := impl.EssentialPrimes(f)
	if !ok {
		t.Fatalf("EssentialPrimes(%v) = %v, %v", f, l, ok)
	}
	return l
}

func minimalSum(t *testing.T, f impl.Table) []impl.Term {
	t.Helper()
	l, ok := impl.MinimalSum(f)
	if !ok {
		t.Fatalf("MinimalSum(%v) = %v, %v", f, l, ok)
	}
	return l
}

func termsTable(t *testing.T, n int, l []impl.Term) impl.Table {
	t.Helper()
	f, ok := impl.TableOfTerms(n, l)
	return tables{t}.checked(f, ok, n, "TableOfTerms", n, l)
}

// texts returns FormatTerm of all terms, separated by spaces.
func texts(n int, l []impl.Term) string {
	parts := make([]string, len(l))
	for k, u := range l {
		parts[k] = impl.FormatTerm(n, u)
	}
	return strings.Join(parts, " ")
}

// wrongTerms are no terms of n variables.
func wrongTerms(n int) []impl.Term {
	var l []impl.Term
	for _, mask := range append(outOfRange, 1<<n, 1<<n+1, 2<<n-1, 1<<62, -1<<n) {
		l = append(l, impl.Term{Mask: mask}, impl.Term{Mask: mask, Value: mask}, impl.Term{Mask: mask, Value: 1})
	}
	for mask := range 1 << n {
		l = append(l, impl.Term{Mask: mask, Value: 1 << n}, impl.Term{Mask: mask, Value: mask + 1<<n}, impl.Term{Mask: mask, Value: -1}, impl.Term{Mask: mask, Value: -1 - mask}, impl.Term{Mask: mask, Value: mask - 1<<n}, impl.Term{Mask: mask, Value: math.MinInt}, impl.Term{Mask: mask, Value: math.MinInt + mask}, impl.Term{Mask: mask, Value: math.MaxInt})
		for value := range 1 << n {
			if value|mask != mask {
				l = append(l, impl.Term{Mask: mask, Value: value})
			}
		}
	}
	return slices.DeleteFunc(l, func(u impl.Term) bool {
		return slices.ContainsFunc(cubesOf(n), func(c cube) bool { return c.term() == u })
	})
}

// wrongBits are no numbers of variables.
var wrongBits = append([]int{6, 7, 8, -5, -6}, outOfRange...)

func TestIsTermAcceptsTerms(t *testing.T) {
	for n, count := range []int{1, 3, 9, 27, 81, 243} {
		terms := map[impl.Term]bool{}
		for _, c := range cubesOf(n) {
			terms[c.term()] = true
		}
		accepted := 0
		for mask := -2; mask < 70; mask++ {
			for value := -2; value < 70; value++ {
				u := impl.Term{Mask: mask, Value: value}
				if impl.IsTerm(n, u) != terms[u] {
					t.Fatalf("IsTerm(%d, %v) = %v", n, u, !terms[u])
				}
				if terms[u] {
					accepted++
				}
			}
		}
		if accepted != count {
			t.Errorf("%d variables have %d terms, want %d", n, accepted, count)
		}
	}
}

func TestTermsReject(t *testing.T) {
	for n := range 6 {
		for _, u := range wrongTerms(n) {
			if impl.IsTerm(n, u) || impl.FormatTerm(n, u) != "" {
				t.Errorf("IsTerm(%d, %v) = %v, FormatTerm = %q", n, u, impl.IsTerm(n, u), impl.FormatTerm(n, u))
			}
			for _, l := range [][]impl.Term{{u}, {u, {}}, {{}, u}, {{}, {}, u, {}}} {
				if f, ok := impl.TableOfTerms(n, l); ok || f != (impl.Table{}) {
					t.Errorf("TableOfTerms(%d, %v) = %v, %v", n, l, f, ok)
				}
			}
			for _, f := range someTables(n)[:6] {
				if impl.IsImplicant(f, u) || impl.IsPrimeTerm(f, u) {
					t.Errorf("IsImplicant(%v, %v) = %v, IsPrimeTerm = %v", f, u, impl.IsImplicant(f, u), impl.IsPrimeTerm(f, u))
				}
			}
		}
	}
	for _, n := range wrongBits {
		for _, u := range append(wrongTerms(1), impl.Term{}, impl.Term{Mask: 1, Value: 1}, impl.Term{Mask: 1}, impl.Term{Mask: 32, Value: 32}) {
			if impl.IsTerm(n, u) || impl.FormatTerm(n, u) != "" {
				t.Errorf("IsTerm(%d, %v) = %v, FormatTerm = %q", n, u, impl.IsTerm(n, u), impl.FormatTerm(n, u))
			}
			if f, ok := impl.TableOfTerms(n, []impl.Term{u}); ok || f != (impl.Table{}) {
				t.Errorf("TableOfTerms(%d, %v) = %v, %v", n, u, f, ok)
			}
		}
		if f, ok := impl.TableOfTerms(n, nil); ok || f != (impl.Table{}) {
			t.Errorf("TableOfTerms(%d, nil) = %v, %v", n, f, ok)
		}
		for _, s := range []string{"", "1", "a", "!a", "abcde", "f", "0"} {
			if u, ok := impl.ParseTerm(n, s); ok || u != (impl.Term{}) {
				t.Errorf("ParseTerm(%d, %q) = %v, %v", n, s, u, ok)
			}
		}
	}
}

func TestTermHoldsForInputs(t *testing.T) {
	for _, c := range cubesOf(5) {
		for x := range 32 {
			if got := impl.TermHolds(c.term(), x); got != c.holds(bitsOf(5, x)) {
				t.Fatalf("TermHolds(%v, %d) = %v", c.term(), x, got)
			}
		}
		for _, x := range append(outOfRange, -3, -31, 34, 1<<6-1, 1<<40) {
			if impl.TermHolds(c.term(), x) {
				t.Fatalf("TermHolds(%v, %d) is true", c.term(), x)
			}
		}
	}
	for _, u := range wrongTerms(5) {
		for _, x := range append(outOfRange, 0, 1, 2, 31, u.Value) {
			if impl.TermHolds(u, x) {
				t.Errorf("TermHolds(%v, %d) is true", u, x)
			}
		}
	}
}

func TestTermsAreReadBack(t *testing.T) {
	for n := range 6 {
		seen := map[string]bool{}
		for _, c := range cubesOf(n) {
			s := impl.FormatTerm(n, c.term())
			if s != c.text() || seen[s] {
				t.Fatalf("FormatTerm(%d, %v) = %q, want %q", n, c.term(), s, c.text())
			}
			seen[s] = true
			if u, ok := impl.ParseTerm(n, s); !ok || u != c.term() {
				t.Fatalf("ParseTerm(%d, %q) = %v, %v, want %v", n, s, u, ok, c.term())
			}
		}
	}
}

func TestFormatTermReturnsLetters(t *testing.T) {
	for _, c := range []struct {
		n, mask, value int
		want           string
	}{
		{0, 0, 0, "1"},
		{5, 0, 0, "1"},
		{1, 1, 1, "a"},
		{1, 1, 0, "!a"},
		{2, 2, 2, "b"},
		{3, 5, 4, "!ac"},
		{3, 5, 1, "a!c"},
		{3, 7, 7, "abc"},
		{3, 7, 0, "!a!b!c"},
		{4, 9, 8, "!ad"},
		{5, 16, 16, "e"},
		{5, 16, 0, "!e"},
		{5, 31, 31, "abcde"},
		{5, 31, 0, "!a!b!c!d!e"},
		{5, 31, 10, "!ab!cd!e"},
		{5, 22, 18, "b!ce"},
	} {
		u := impl.Term{Mask: c.mask, Value: c.value}
		if got := impl.FormatTerm(c.n, u); got != c.want {
			t.Errorf("FormatTerm(%d, %v) = %q, want %q", c.n, u, got, c.want)
		}
		if got, ok := impl.ParseTerm(c.n, c.want); !ok || got != u {
			t.Errorf("ParseTerm(%d, %q) = %v, %v, want %v", c.n, c.want, got, ok, u)
		}
	}
}

// checkText checks ParseTerm of a text for all numbers of variables, from the texts of all terms.
func checkText(t *testing.T, s string, written []map[string]impl.Term) {
	t.Helper()
	for n := range written {
		want, valid := written[n][s]
		if u, ok := impl.ParseTerm(n, s); u != want || ok != valid {
			t.Fatalf("ParseTerm(%d, %q) = %v, %v, want %v, %v", n, s, u, ok, want, valid)
		}
	}
}

// TestParseTermAcceptsWrittenTerms reads short strings of some symbols, and terms with bytes exchanged, left out and put in.
func TestParseTermAcceptsWrittenTerms(t *testing.T) {
	written := make([]map[string]impl.Term, 6)
	for n := range written {
		written[n] = map[string]impl.Term{}
		for _, c := range cubesOf(n) {
			written[n][c.text()] = c.term()
		}
	}
	for _, s := range append(append(stringsUpTo("abe!1", 5), stringsUpTo("acd!0", 5)...), stringsUpTo("a!bA&| \x00\xff", 4)...) {
		checkText(t, s, written)
	}
	for _, c := range cubesOf(5) {
		s := c.text()
		for k := range len(s) + 1 {
			for _, tail := range append(tails, "a", "c", "e", "!", "1", "!a", "f", " ", "\n", "&", "|", "+") {
				checkText(t, s[:k]+tail+s[k:], written)
				if k < len(s) {
					checkText(t, s[:k]+tail+s[k+1:], written)
				}
			}
		}
		checkText(t, s+s, written)
		checkText(t, strings.ToUpper(s), written)
	}
	for b := range 256 {
		for _, s := range []string{"", "!", "a", "1", "!a", "b"} {
			checkText(t, s+string([]byte{byte(b)}), written)
			checkText(t, string([]byte{byte(b)})+s, written)
		}
	}
}

func TestParseTermRejects(t *testing.T) {
	for _, s := range []string{
		"", "aa", "a!a", "!aa", "!a!a", "abb", "aba", "ba", "ca", "!c!a", "acb", "edcba", "bacde", "abced",
		"!", "!!", "a!", "!a!", "ab!", "!!a", "!!!a", "a!!b", "!!1", "!1", "1!", "!1a",
		"a1", "1a", "1!a", "!a1", "a1b", "11", "1 ", " 1", "0", "!0", "a0", "0a", "10", "2", "-1", "+1", "1.",
		"f", "!f", "abcdef", "A", "Ab", "aB", "`", "&ab", "|ab", "a&b", "a|b", "a+b", "a*b", "ab'", "~a", "¬a", "-a", "(a)", "a,b", "a b", " a", "a ",
		"a\n", "\na", "a\x00", "\x00", "\x00a", "\x80", "\xff", "a\xff", "\xffa", "é", "aé", "а", "１", "true",
	} {
		for n := range 6 {
			if u, ok := impl.ParseTerm(n, s); ok || u != (impl.Term{}) {
				t.Errorf("ParseTerm(%d, %q) = %v, %v", n, s, u, ok)
			}
		}
	}
	for n := range 6 {
		for _, c := range cubesOf(5) {
			beyond := slices.ContainsFunc(c[n:], func(v int) bool { return v < 2 })
			if u, ok := impl.ParseTerm(n, c.text()); ok == beyond || beyond && u != (impl.Term{}) {
				t.Errorf("ParseTerm(%d, %q) = %v, %v", n, c.text(), u, ok)
			}
		}
	}
	for _, n := range []int{10, 100, 1 << 16, 1 << 20} {
		for _, s := range []string{"a", "!", "1", "!a", "ab", "abcde", "\xff"} {
			if u, ok := impl.ParseTerm(5, strings.Repeat(s, n)); ok || u != (impl.Term{}) {
				t.Errorf("ParseTerm of %q %d times = %v, %v", s, n, u, ok)
			}
		}
	}
}

// TestImplicantsHoldForOnesOnly has all terms of all tables of few variables, and of some of more.
func TestImplicantsHoldForOnesOnly(t *testing.T) {
	for _, f := range sampleTables() {
		for _, c := range cubesOf(f.Bits) {
			implicant := c.implies(f)
			if got := impl.IsImplicant(f, c.term()); got != implicant {
				t.Fatalf("IsImplicant(%v, %v) = %v", f, c.term(), got)
			}
			prime := implicant
			for i, v := range c {
				c[i] = 2
				prime = prime && (v == 2 || !c.implies(f))
				c[i] = v
			}
			if got := impl.IsPrimeTerm(f, c.term()); got != prime {
				t.Fatalf("IsPrimeTerm(%v, %v) = %v", f, c.term(), got)
			}
		}
	}
}

// TestImplicantsRejectVariablesBeyond has terms that are terms for more variables than the table has.
func TestImplicantsRejectVariablesBeyond(t *testing.T) {
	for n := range 5 {
		for _, f := range []impl.Table{{Bits: n}, {Bits: n, Word: 1<<(1<<n) - 1}, {Bits: n, Word: 1}} {
			for _, c := range cubesOf(5) {
				u := c.term()
				if u.Mask < 1<<n {
					continue
				}
				if impl.IsImplicant(f, u) || impl.IsPrimeTerm(f, u) {
					t.Fatalf("IsImplicant(%v, %v) = %v, IsPrimeTerm = %v", f, u, impl.IsImplicant(f, u), impl.IsPrimeTerm(f, u))
				}
			}
		}
	}
}

func TestPrimesAreInOrder(t *testing.T) {
	for _, f := range sampleTables() {
		l := primesOf(t, f)
		for k := 1; k < len(l); k++ {
			if compareTerms(l[k-1], l[k]) >= 0 {
				t.Fatalf("PrimesOf(%v) = %v", f, l)
			}
		}
		for mask := -1; mask <= 2<<f.Bits; mask++ {
			for value := -1; value <= 2<<f.Bits; value++ {
				u := impl.Term{Mask: mask, Value: value}
				if impl.IsPrimeTerm(f, u) != slices.Contains(l, u) {
					t.Fatalf("PrimesOf(%v) = %v, but IsPrimeTerm of %v is %v", f, l, u, impl.IsPrimeTerm(f, u))
				}
			}
		}
	}
}

// TestPrimesAreTheMergedOnes finds the terms from the inputs up, and counts which of them hold.
func TestPrimesAreTheMergedOnes(t *testing.T) {
	for _, f := range sampleTables() {
		l := merged(f)
		if got := primesOf(t, f); !slices.Equal(got, l) {
			t.Fatalf("PrimesOf(%v) = %v, want %v", f, got, l)
		}
		counts := onesOf(f.Bits, l)
		var essential []impl.Term
		for _, u := range l {
			for x, count := range counts {
				if count == 1 && impl.TermHolds(u, x) {
					essential = append(essential, u)
					break
				}
			}
		}
		if got := essentialPrimes(t, f); !slices.Equal(got, essential) {
			t.Fatalf("EssentialPrimes(%v) = %v, want %v", f, got, essential)
		}
	}
}

// TestEssentialPrimesAreNeeded leaves out one prime after the other: the table changes exactly for the essential ones.
func TestEssentialPrimesAreNeeded(t *testing.T) {
	for _, f := range sampleTables() {
		l := primesOf(t, f)
		var needed []impl.Term
		for k, u := range l {
			if termsTable(t, f.Bits, slices.Delete(slices.Clone(l), k, k+1)) != f {
				needed = append(needed, u)
			}
		}
		if got := essentialPrimes(t, f); !slices.Equal(got, needed) {
			t.Fatalf("EssentialPrimes(%v) = %v, want %v", f, got, needed)
		}
	}
}

// checkSum checks what holds of every minimal sum.
func checkSum(t *testing.T, f impl.Table) {
	t.Helper()
	primes, essential, sum := primesOf(t, f), essentialPrimes(t, f), minimalSum(t, f)
	if termsTable(t, f.Bits, sum) != f || termsTable(t, f.Bits, primes) != f {
		t.Fatalf("MinimalSum(%v) = %v and PrimesOf = %v have other tables", f, sum, primes)
	}
	for _, u := range essential {
		if !slices.Contains(sum, u) {
			t.Fatalf("MinimalSum(%v) = %v has no %v, which is essential", f, sum, u)
		}
	}
	if !slices.IsSortedFunc(sum, compareTerms) || len(slices.Compact(slices.Clone(sum))) != len(sum) {
		t.Fatalf("MinimalSum(%v) = %v", f, sum)
	}
	for _, u := range sum {
		if !slices.Contains(primes, u) {
			t.Fatalf("MinimalSum(%v) = %v has %v, which is no prime", f, sum, u)
		}
	}
}

func TestMinimalSumsHaveTables(t *testing.T) {
	for n := range 5 {
		for _, f := range allTables(n) {
			checkSum(t, f)
		}
	}
}

// TestMinimalSumIsFirstOfLeastChoices tries all choices of primes.
func TestMinimalSumIsFirstOfLeastChoices(t *testing.T) {
	l := append(sampleTables(), impl.Table{Bits: 4, Word: 0x7ffe}, impl.Table{Bits: 4, Word: 0x6996})
	r := rand.New(rand.NewSource(6))
	for range 300 {
		l = append(l, impl.Table{Bits: 4, Word: r.Intn(1 << 16)})
	}
	several := 0
	for _, f := range l {
		if f.Bits > 4 {
			continue
		}
		want, found := leastChoice(t, f, merged(f))
		if got := minimalSum(t, f); !slices.Equal(got, want) {
			t.Fatalf("MinimalSum(%v) = %v, want %v", f, got, want)
		}
		if found > 1 {
			several++
		}
	}
	if several < 20 {
		t.Errorf("only %d tables have several minimal sums", several)
	}
}

func TestSumsOfTables(t *testing.T) {
	for _, c := range []struct{ f, primes, essential, sum string }{
		{"01", "a", "a", "a"},
		{"10", "!a", "!a", "!a"},
		{"0001", "ab", "ab", "ab"},
		{"0111", "a b", "a b", "a b"},
		{"0110", "a!b !ab", "a!b !ab", "a!b !ab"},
		{"1001", "!a!b ab", "!a!b ab", "!a!b ab"},
		{"0011", "b", "b", "b"},
		{"1101", "a !b", "a !b", "a !b"},
		{"00010111", "ab ac bc", "ab ac bc", "ab ac bc"},
		{"00011011", "ab !ac bc", "ab !ac", "ab !ac"},
		{"01101001", "a!b!c !ab!c !a!bc abc", "a!b!c !ab!c !a!bc abc", "a!b!c !ab!c !a!bc abc"},
		{"01010101", "a", "a", "a"},
		{"00001111", "c", "c", "c"},
		{"0101010101010111", "a bcd", "a bcd", "a bcd"},
		{"0001000100011111", "ab cd", "ab cd", "ab cd"},
		{"0000000000000001", "abcd", "abcd", "abcd"},
	} {
		f, _ := impl.ParseTable(c.f)
		if got := texts(f.Bits, primesOf(t, f)); got != c.primes {
			t.Errorf("PrimesOf %s is %s, want %s", c.f, got, c.primes)
		}
		if got := texts(f.Bits, essentialPrimes(t, f)); got != c.essential {
			t.Errorf("EssentialPrimes of %s is %s, want %s", c.f, got, c.essential)
		}
		if got := texts(f.Bits, minimalSum(t, f)); got != c.sum {
			t.Errorf("MinimalSum of %s is %s, want %s", c.f, got, c.sum)
		}
	}
}

// TestSeveralMinimalSums has tables whose primes go round in circles: of none or some of them are there several choices that are as short.
func TestSeveralMinimalSums(t *testing.T) {
	for _, c := range []struct {
		f, primes, essential, sum string
		sums                      int
	}{
		{"01111110", "a!b !ab a!c !ac b!c !bc", "", "a!b !ac b!c", 2},
		{"11011011", "!a!b ab a!c !ac !b!c bc", "", "!a!b a!c bc", 2},
		{"11100111", "a!b !ab !a!c ac !b!c bc", "", "a!b !a!c bc", 2},
		{"10111100", "!a!b !a!c b!c !bc", "b!c !bc", "!a!b b!c !bc", 2},
		{"11100110", "a!b !ab !a!c !b!c", "a!b !ab", "a!b !ab !a!c", 2},
		{"01111010", "!ab a!c !ac b!c", "a!c !ac", "!ab a!c !ac", 2},
		{"0111111011111111", "a!b !ab a!c !ac b!c !bc d", "d", "a!b !ac b!c d", 2},
		// Each sum goes once round a, b, c and d.
		{"0111111111111110", "a!b !ab a!c !ac b!c !bc a!d !ad b!d !bd c!d !cd", "", "a!b !ac b!d !cd", 6},
	} {
		f, ok := impl.ParseTable(c.f)
		if !ok {
			t.Fatalf("%s is no table", c.f)
		}
		primes := primesOf(t, f)
		if got := texts(f.Bits, primes); got != c.primes {
			t.Errorf("PrimesOf %s is %s, want %s", c.f, got, c.primes)
		}
		if got := texts(f.Bits, essentialPrimes(t, f)); got != c.essential {
			t.Errorf("EssentialPrimes of %s is %s, want %s", c.f, got, c.essential)
		}
		if got := texts(f.Bits, minimalSum(t, f)); got != c.sum {
			t.Errorf("MinimalSum of %s is %s, want %s", c.f, got, c.sum)
		}
		if want, found := leastChoice(t, f, primes); found != c.sums || texts(f.Bits, want) != c.sum {
			t.Errorf("%s has %d minimal sums, the first of them %s", c.f, found, texts(f.Bits, want))
		}
	}
}

// TestParityHasLongestSums has the tables all of whose primes are single inputs, and the greatest number of primes of four variables.
func TestParityHasLongestSums(t *testing.T) {
	for n := range 6 {
		f := tableOf(n, func(bits []int) int {
			sum := 1
			for _, b := range bits {
				sum += b
			}
			return sum % 2
		})
		var want []impl.Term
		for x, v := range values(f) {
			if v == 1 {
				want = append(want, impl.Term{Mask: 1<<n - 1, Value: x})
			}
		}
		if got := primesOf(t, f); !slices.Equal(got, want) {
			t.Errorf("PrimesOf(%v) = %v", f, got)
		}
		if got := essentialPrimes(t, f); !slices.Equal(got, want) {
			t.Errorf("EssentialPrimes(%v) = %v", f, got)
		}
		if n < 5 && !slices.Equal(minimalSum(t, f), want) {
			t.Errorf("MinimalSum(%v) = %v", f, minimalSum(t, f))
		}
	}
	f, _ := impl.ParseTable("1011110111010110")
	if got := primesOf(t, f); len(got) != 13 {
		t.Errorf("%v has %d primes", f, len(got))
	}
}

// TestTermWithoutLetters has the only term of the constant 1, also of no variables.
func TestTermWithoutLetters(t *testing.T) {
	none := impl.Term{}
	for n := range 6 {
		if !impl.IsTerm(n, none) || impl.FormatTerm(n, none) != "1" {
			t.Errorf("IsTerm(%d, %v) = %v, FormatTerm = %q", n, none, impl.IsTerm(n, none), impl.FormatTerm(n, none))
		}
		if u, ok := impl.ParseTerm(n, "1"); !ok || u != none {
			t.Errorf("ParseTerm(%d, \"1\") = %v, %v", n, u, ok)
		}
		one := impl.Table{Bits: n, Word: 1<<(1<<n) - 1}
		if !impl.IsImplicant(one, none) || !impl.IsPrimeTerm(one, none) {
			t.Errorf("IsImplicant(%v, %v) = %v, IsPrimeTerm = %v", one, none, impl.IsImplicant(one, none), impl.IsPrimeTerm(one, none))
		}
		if l := primesOf(t, one); len(l) != 1 || l[0] != none {
			t.Errorf("PrimesOf(%v) = %v", one, l)
		}
		if l := essentialPrimes(t, one); len(l) != 1 || l[0] != none {
			t.Errorf("EssentialPrimes(%v) = %v", one, l)
		}
		if n < 5 {
			if l := minimalSum(t, one); len(l) != 1 || l[0] != none {
				t.Errorf("MinimalSum(%v) = %v", one, l)
			}
		}
		for _, l := range [][]impl.Term{{none}, {none, none}} {
			if f := termsTable(t, n, l); f != one {
				t.Errorf("TableOfTerms(%d, %v) = %v", n, l, f)
			}
		}
		for _, c := range cubesOf(n) {
			if c.text() != "1" && (!impl.IsImplicant(one, c.term()) || impl.IsPrimeTerm(one, c.term())) {
				t.Errorf("IsImplicant(%v, %v) = %v, IsPrimeTerm = %v", one, c.term(), impl.IsImplicant(one, c.term()), impl.IsPrimeTerm(one, c.term()))
			}
		}
		for _, f := range tablesOf(n) {
			if f != one && (impl.IsImplicant(f, none) || impl.IsPrimeTerm(f, none) || slices.Contains(primesOf(t, f), none)) {
				t.Errorf("%v has the term without letters", f)
			}
		}
	}
	for x := range 32 {
		if !impl.TermHolds(none, x) {
			t.Errorf("TermHolds(%v, %d) is false", none, x)
		}
	}
	for _, x := range outOfRange {
		if impl.TermHolds(none, x) {
			t.Errorf("TermHolds(%v, %d) is true", none, x)
		}
	}
}

// TestConstantZeroHasNoPrimes has empty lists that are no failures.
func TestConstantZeroHasNoPrimes(t *testing.T) {
	for n := range 6 {
		zero := impl.Table{Bits: n}
		if l := primesOf(t, zero); len(l) != 0 {
			t.Errorf("PrimesOf(%v) = %v", zero, l)
		}
		if l := essentialPrimes(t, zero); len(l) != 0 {
			t.Errorf("EssentialPrimes(%v) = %v", zero, l)
		}
		if n < 5 {
			if l := minimalSum(t, zero); len(l) != 0 {
				t.Errorf("MinimalSum(%v) = %v", zero, l)
			}
		}
		if termsTable(t, n, nil) != zero || termsTable(t, n, []impl.Term{}) != zero {
			t.Errorf("TableOfTerms(%d) of no terms is not 0", n)
		}
		for _, c := range cubesOf(n) {
			if impl.IsImplicant(zero, c.term()) || impl.IsPrimeTerm(zero, c.term()) {
				t.Errorf("IsImplicant(%v, %v) = %v, IsPrimeTerm = %v", zero, c.term(), impl.IsImplicant(zero, c.term()), impl.IsPrimeTerm(zero, c.term()))
			}
		}
	}
}

// TestFiveVariablesHaveNoSum has the tables of five variables: their primes are found, but no sum, not even that of a constant.
func TestFiveVariablesHaveNoSum(t *testing.T) {
	for _, f := range someTables(5) {
		primes, essential := primesOf(t, f), essentialPrimes(t, f)
		if termsTable(t, 5, primes) != f {
			t.Errorf("PrimesOf(%v) = %v", f, primes)
		}
		for _, u := range essential {
			if !slices.Contains(primes, u) {
				t.Errorf("EssentialPrimes(%v) = %v", f, essential)
			}
		}
		if l, ok := impl.MinimalSum(f); ok || len(l) != 0 {
			t.Errorf("MinimalSum(%v) = %v, %v", f, l, ok)
		}
	}
	for i := range 5 {
		f, _ := impl.VariableTable(5, i)
		for _, l := range [][]impl.Term{primesOf(t, f), essentialPrimes(t, f)} {
			if texts(5, l) != "abcde"[i:i+1] {
				t.Errorf("the primes of variable %d are %v", i, l)
			}
		}
		if l, ok := impl.MinimalSum(f); ok || len(l) != 0 {
			t.Errorf("MinimalSum(%v) = %v, %v", f, l, ok)
		}
	}
	// Three of the variables are 1.
	f := tableOf(5, func(bits []int) int { return (bits[0] + bits[1] + bits[2] + bits[3] + bits[4]) / 3 })
	want := "abc abd acd bcd abe ace bce ade bde cde"
	if got := texts(5, primesOf(t, f)); got != want || texts(5, essentialPrimes(t, f)) != want {
		t.Errorf("PrimesOf(%v) is %s, EssentialPrimes is %s", f, got, texts(5, essentialPrimes(t, f)))
	}
}

func TestPrimesRejectOthers(t *testing.T) {
	for _, f := range notTables() {
		for _, u := range []impl.Term{{}, {Mask: 1}, {Mask: 1, Value: 1}, {Mask: 31, Value: 31}, {Mask: 32, Value: 32}, {Mask: -1}, {Value: 1}} {
			if impl.IsImplicant(f, u) || impl.IsPrimeTerm(f, u) {
				t.Errorf("IsImplicant(%v, %v) = %v, IsPrimeTerm = %v", f, u, impl.IsImplicant(f, u), impl.IsPrimeTerm(f, u))
			}
		}
		if l, ok := impl.PrimesOf(f); ok || len(l) != 0 {
			t.Errorf("PrimesOf(%v) = %v, %v", f, l, ok)
		}
		if l, ok := impl.EssentialPrimes(f); ok || len(l) != 0 {
			t.Errorf("EssentialPrimes(%v) = %v, %v", f, l, ok)
		}
		if l, ok := impl.MinimalSum(f); ok || len(l) != 0 {
			t.Errorf("MinimalSum(%v) = %v, %v", f, l, ok)
		}
	}
}

func TestTableOfTermsIsTheirUnion(t *testing.T) {
	_, _, or, _ := algebra(t)
	r := rand.New(rand.NewSource(7))
	for n := range 6 {
		cubes := cubesOf(n)
		for range 200 {
			var l []impl.Term
			var some []cube
			union := impl.Table{Bits: n}
			for range r.Intn(6) {
				c := cubes[r.Intn(len(cubes))]
				some = append(some, c)
				l = append(l, c.term())
				union = or(union, termsTable(t, n, []impl.Term{c.term()}))
			}
			want := tableOf(n, func(bits []int) int {
				if slices.ContainsFunc(some, func(c cube) bool { return c.holds(bits) }) {
					return 1
				}
				return 0
			})
			if got := termsTable(t, n, l); got != want || got != union {
				t.Fatalf("TableOfTerms(%d, %v) = %v, want %v", n, l, got, want)
			}
		}
		// All inputs, many times each.
		var l []impl.Term
		for k := range 10000 {
			l = append(l, impl.Term{Mask: 1<<n - 1, Value: k % (1 << n)})
		}
		if got := termsTable(t, n, l); got != (impl.Table{Bits: n, Word: 1<<(1<<n) - 1}) {
			t.Errorf("TableOfTerms of all inputs of %d variables = %v", n, got)
		}
		for _, u := range []impl.Term{{Mask: 1 << n}, {Value: 1}, {Mask: -1, Value: -1}} {
			l[9999] = u
			if f, ok := impl.TableOfTerms(n, l); ok || f != (impl.Table{}) {
				t.Errorf("TableOfTerms of all inputs of %d variables and %v = %v, %v", n, u, f, ok)
			}
		}
	}
}

// TestTermsAreNotModified looks at a list of terms and its unused capacity.
func TestTermsAreNotModified(t *testing.T) {
	spare := impl.Term{Mask: 7, Value: -7}
	for _, f := range append(allTables(3), someTables(5)...) {
		primes := primesOf(t, f)
		all := append(slices.Clone(primes), spare, spare, spare)
		if got := termsTable(t, f.Bits, all[:len(primes)]); got != f {
			t.Fatalf("TableOfTerms(%d, %v) = %v", f.Bits, primes, got)
		}
		if !slices.Equal(all, append(slices.Clone(primes), spare, spare, spare)) {
			t.Fatalf("TableOfTerms of %v leaves %v", primes, all)
		}
	}
}

// TestSumsAreNewMemory overwrites each result, with its unused capacity, and compares a second one.
func TestSumsAreNewMemory(t *testing.T) {
	for name, terms := range map[string]func(impl.Table) ([]impl.Term, bool){"PrimesOf": impl.PrimesOf, "EssentialPrimes": impl.EssentialPrimes, "MinimalSum": impl.MinimalSum} {
		for _, f := range append(allTables(3), someTables(4)...) {
			l, _ := terms(f)
			want := slices.Clone(l)
			l = l[:cap(l)]
			for k := range l {
				l[k] = impl.Term{Mask: -7, Value: -7}
			}
			if again, ok := terms(f); !ok || !slices.Equal(again, want) {
				t.Fatalf("%s(%v) = %v, %v after the change of a result, want %v", name, f, again, ok, want)
			}
		}
	}
}
