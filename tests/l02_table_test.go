package tests

import (
	"math"
	"math/rand"
	"strconv"
	"strings"
	"testing"

	"loop.example/g03403/impl"
)

// allTables returns the tables of n variables, for n at most 4.
func allTables(n int) []impl.Table {
	l := make([]impl.Table, 1<<(1<<n))
	for w := range l {
		l[w] = impl.Table{Bits: n, Word: w}
	}
	return l
}

// someTables returns the extreme words of n variables, words with a single bit at either end, and random ones.
func someTables(n int) []impl.Table {
	full := 1<<(1<<n) - 1
	words := []int{0, 1, full, full - 1, full / 2, full/2 + 1}
	r := rand.New(rand.NewSource(2))
	for range 40 {
		words = append(words, r.Intn(full+1))
	}
	var l []impl.Table
	for _, w := range words {
		l = append(l, impl.Table{Bits: n, Word: w})
	}
	return l
}

// sampleTables returns all tables of at most 3 variables, and some of 4 and of 5.
func sampleTables() []impl.Table {
	var l []impl.Table
	for n := range 4 {
		l = append(l, allTables(n)...)
	}
	return append(append(l, someTables(4)...), someTables(5)...)
}

// notTables have a number of variables out of range, or a word that is negative or has bits beyond the inputs.
func notTables() []impl.Table {
	var l []impl.Table
	for _, n := range []int{math.MinInt, -64, -6, -2, -1, 6, 7, 8, 31, 32, 63, 64, 65, math.MaxInt} {
		l = append(l, impl.Table{Bits: n}, impl.Table{Bits: n, Word: 1}, impl.Table{Bits: n, Word: -1})
	}
	for n := range impl.MaxBits + 1 {
		for _, w := range []int{math.MinInt, math.MinInt + 1, -1 << 32, -1<<32 + 1, -2, -1, 1 << (1 << n), 1<<(1<<n) + 1, 2<<(1<<n) - 1, 1 << 33, 1 << 62, math.MaxInt} {
			l = append(l, impl.Table{Bits: n, Word: w})
		}
	}
	return l
}

// values returns the values at all inputs, by the definition of Word.
func values(f impl.Table) []int {
	l := make([]int, 1<<f.Bits)
	for x := range l {
		l[x] = f.Word / (1 << x) % 2
	}
	return l
}

type combination struct {
	name  string
	apply func(impl.Table, impl.Table) (impl.Table, bool)
	value func(int, int) int
}

func combinations() []combination {
	return []combination{
		{"AndTables", impl.AndTables, func(a, b int) int { return min(a, b) }},
		{"OrTables", impl.OrTables, func(a, b int) int { return max(a, b) }},
		{"XorTables", impl.XorTables, func(a, b int) int { return (a + b) % 2 }},
	}
}

// algebra returns not, and, or and xor, which fail the test where the functions return false.
func algebra(t *testing.T) (not func(impl.Table) impl.Table, and, or, xor func(impl.Table, impl.Table) impl.Table) {
	checked := func(apply func(impl.Table, impl.Table) (impl.Table, bool)) func(impl.Table, impl.Table) impl.Table {
		return func(f, g impl.Table) impl.Table {
			h, ok := apply(f, g)
			if !ok || !impl.IsTable(h) || h.Bits != f.Bits {
				t.Fatalf("%v and %v give %v, %v", f, g, h, ok)
			}
			return h
		}
	}
	not = func(f impl.Table) impl.Table {
		h, ok := impl.NotTable(f)
		if !ok || !impl.IsTable(h) || h.Bits != f.Bits {
			t.Fatalf("NotTable(%v) = %v, %v", f, h, ok)
		}
		return h
	}
	return not, checked(impl.AndTables), checked(impl.OrTables), checked(impl.XorTables)
}

func TestIsTableAcceptsTables(t *testing.T) {
	if impl.MaxBits != 5 {
		t.Errorf("MaxBits is %d", impl.MaxBits)
	}
	for _, f := range append(sampleTables(), impl.Table{}, impl.Table{Bits: 5, Word: 4294967295}) {
		if !impl.IsTable(f) {
			t.Errorf("IsTable(%v) is false", f)
		}
	}
}

func TestFunctionsOfOneTableRejectOthers(t *testing.T) {
	for _, f := range notTables() {
		if impl.IsTable(f) {
			t.Errorf("IsTable(%v) is true", f)
		}
		for _, x := range []int{math.MinInt, -1, 0, 1, 31, 64, math.MaxInt} {
			if v := impl.ValueAt(f, x); v != -1 {
				t.Errorf("ValueAt(%v, %d) = %d", f, x, v)
			}
		}
		if n := impl.CountOnes(f); n != -1 {
			t.Errorf("CountOnes(%v) = %d", f, n)
		}
		if h, ok := impl.NotTable(f); ok || h != (impl.Table{}) {
			t.Errorf("NotTable(%v) = %v, %v", f, h, ok)
		}
		if s := impl.FormatTable(f); s != "" {
			t.Errorf("FormatTable(%v) = %q", f, s)
		}
		if impl.IsConstant(f) {
			t.Errorf("IsConstant(%v) is true", f)
		}
	}
}

func TestValueAtReturnsBitsOfWord(t *testing.T) {
	for _, f := range sampleTables() {
		ones := 0
		for x, want := range values(f) {
			ones += want
			if v := impl.ValueAt(f, x); v != want {
				t.Fatalf("ValueAt(%v, %d) = %d", f, x, v)
			}
		}
		if n := impl.CountOnes(f); n != ones {
			t.Errorf("CountOnes(%v) = %d, want %d", f, n, ones)
		}
		if c := impl.IsConstant(f); c != (ones == 0 || ones == 1<<f.Bits) {
			t.Errorf("IsConstant(%v) = %v", f, c)
		}
	}
}

func TestValueAtRejectsOtherInputs(t *testing.T) {
	for n := range impl.MaxBits + 1 {
		for _, f := range someTables(n) {
			for _, x := range []int{math.MinInt, -64, -2, -1, 1 << n, 1<<n + 1, 63, 64, 65, 1 << 32, math.MaxInt} {
				if v := impl.ValueAt(f, x); v != -1 {
					t.Errorf("ValueAt(%v, %d) = %d", f, x, v)
				}
			}
		}
	}
}

func TestNotTableReturnsOtherValues(t *testing.T) {
	for _, f := range sampleTables() {
		h, ok := impl.NotTable(f)
		if !ok || !impl.IsTable(h) || h.Bits != f.Bits {
			t.Fatalf("NotTable(%v) = %v, %v", f, h, ok)
		}
		for x, v := range values(f) {
			if impl.ValueAt(h, x) != 1-v {
				t.Errorf("NotTable(%v) = %v", f, h)
			}
		}
	}
}

func TestCombinationsReturnValuesOfBoth(t *testing.T) {
	for n := range impl.MaxBits + 1 {
		l := someTables(n)
		if n < 3 {
			l = allTables(n)
		}
		for _, f := range l {
			for _, g := range l {
				for _, c := range combinations() {
					h, ok := c.apply(f, g)
					if !ok || !impl.IsTable(h) || h.Bits != n {
						t.Fatalf("%s(%v, %v) = %v, %v", c.name, f, g, h, ok)
					}
					for x := range 1 << n {
						if impl.ValueAt(h, x) != c.value(values(f)[x], values(g)[x]) {
							t.Fatalf("%s(%v, %v) = %v", c.name, f, g, h)
						}
					}
				}
			}
		}
	}
}

// TestCombinationsReject gives two tables of different numbers of variables, or one or two that are no tables.
func TestCombinationsReject(t *testing.T) {
	reject := func(f, g impl.Table) {
		for _, c := range combinations() {
			if h, ok := c.apply(f, g); ok || h != (impl.Table{}) {
				t.Errorf("%s(%v, %v) = %v, %v", c.name, f, g, h, ok)
			}
		}
	}
	for n := range impl.MaxBits + 1 {
		for m := range impl.MaxBits + 1 {
			if n == m {
				continue
			}
			for _, f := range someTables(n)[:4] {
				for _, g := range someTables(m)[:4] {
					reject(f, g)
				}
			}
		}
	}
	for _, f := range notTables() {
		reject(f, f)
		for n := range impl.MaxBits + 1 {
			for _, g := range someTables(n)[:3] {
				reject(f, g)
				reject(g, f)
			}
		}
	}
}

// checkLawsOfOne checks the laws with one table and the constants.
func checkLawsOfOne(t *testing.T, f impl.Table) {
	not, and, or, xor := algebra(t)
	zero, one := impl.Table{Bits: f.Bits}, not(impl.Table{Bits: f.Bits})
	for name, holds := range map[string]bool{
		"double negation":     not(not(f)) == f,
		"idempotence":         and(f, f) == f && or(f, f) == f,
		"neutral elements":    and(f, one) == f && or(f, zero) == f && xor(f, zero) == f,
		"dominant elements":   and(f, zero) == zero && or(f, one) == one,
		"complements":         and(f, not(f)) == zero && or(f, not(f)) == one,
		"exclusive or":        xor(f, f) == zero && xor(f, one) == not(f),
		"numbers of ones":     impl.CountOnes(f)+impl.CountOnes(not(f)) == 1<<f.Bits,
		"different negations": not(f) != f,
		"constants":           impl.IsConstant(f) == (f == zero || f == one),
	} {
		if !holds {
			t.Errorf("%s does not hold for %v", name, f)
		}
	}
}

// checkLawsOfThree checks the laws with two and with three tables.
func checkLawsOfThree(t *testing.T, f, g, h impl.Table) {
	not, and, or, xor := algebra(t)
	for name, holds := range map[string]bool{
		"commutativity":   and(f, g) == and(g, f) && or(f, g) == or(g, f) && xor(f, g) == xor(g, f),
		"absorption":      and(f, or(f, g)) == f && or(f, and(f, g)) == f,
		"De Morgan":       not(and(f, g)) == or(not(f), not(g)) && not(or(f, g)) == and(not(f), not(g)),
		"exclusive or":    xor(f, g) == or(and(f, not(g)), and(not(f), g)) && xor(xor(f, g), g) == f,
		"associativity":   and(and(f, g), h) == and(f, and(g, h)) && or(or(f, g), h) == or(f, or(g, h)) && xor(xor(f, g), h) == xor(f, xor(g, h)),
		"distributivity":  and(f, or(g, h)) == or(and(f, g), and(f, h)) && or(f, and(g, h)) == and(or(f, g), or(f, h)) && and(f, xor(g, h)) == xor(and(f, g), and(f, h)),
		"numbers of ones": impl.CountOnes(f)+impl.CountOnes(g) == impl.CountOnes(and(f, g))+impl.CountOnes(or(f, g)),
	} {
		if !holds {
			t.Fatalf("%s does not hold for %v, %v and %v", name, f, g, h)
		}
	}
}

func TestTablesAreABooleanAlgebra(t *testing.T) {
	for _, f := range sampleTables() {
		checkLawsOfOne(t, f)
	}
	for n := range impl.MaxBits + 1 {
		l := someTables(n)[:16]
		if n < 3 {
			l = allTables(n)
		}
		for _, f := range l {
			for _, g := range l {
				for _, h := range l {
					checkLawsOfThree(t, f, g, h)
				}
			}
		}
	}
}

func TestVariableTableIsBitOfInput(t *testing.T) {
	for n := range impl.MaxBits + 1 {
		for i := range n {
			f, ok := impl.VariableTable(n, i)
			if !ok || !impl.IsTable(f) || f.Bits != n {
				t.Fatalf("VariableTable(%d, %d) = %v, %v", n, i, f, ok)
			}
			for x := range 1 << n {
				if impl.ValueAt(f, x) != x/(1<<i)%2 {
					t.Errorf("VariableTable(%d, %d) = %v", n, i, f)
				}
			}
			if impl.IsConstant(f) {
				t.Errorf("IsConstant(%v) is true", f)
			}
		}
	}
	for i, want := range []int{0xaaaaaaaa, 0xcccccccc, 0xf0f0f0f0, 0xff00ff00, 0xffff0000} {
		if f, ok := impl.VariableTable(5, i); !ok || f.Word != want {
			t.Errorf("VariableTable(5, %d) = %v, %v", i, f, ok)
		}
	}
}

func TestVariableTableRejects(t *testing.T) {
	reject := func(n, i int) {
		if f, ok := impl.VariableTable(n, i); ok || f != (impl.Table{}) {
			t.Errorf("VariableTable(%d, %d) = %v, %v", n, i, f, ok)
		}
	}
	for n := range impl.MaxBits + 1 {
		for _, i := range []int{math.MinInt, -64, -1, n, n + 1, 63, 64, math.MaxInt} {
			reject(n, i)
		}
	}
	for _, n := range []int{math.MinInt, -6, -1, 6, 7, 63, 64, math.MaxInt} {
		for _, i := range []int{-2, -1, 0, 1, 5, 6, 63, 64} {
			reject(n, i)
		}
	}
}

// TestTablesOfNoVariables has both tables of one input.
func TestTablesOfNoVariables(t *testing.T) {
	zero, one := impl.Table{Bits: 0, Word: 0}, impl.Table{Bits: 0, Word: 1}
	for v, f := range []impl.Table{zero, one} {
		if !impl.IsTable(f) || impl.ValueAt(f, 0) != v || impl.ValueAt(f, 1) != -1 || impl.ValueAt(f, -1) != -1 || impl.CountOnes(f) != v || !impl.IsConstant(f) {
			t.Errorf("%v is no constant %d", f, v)
		}
		if h, ok := impl.NotTable(f); !ok || h != (impl.Table{Bits: 0, Word: 1 - v}) {
			t.Errorf("NotTable(%v) = %v, %v", f, h, ok)
		}
		if s := impl.FormatTable(f); s != strconv.Itoa(v) {
			t.Errorf("FormatTable(%v) = %q", f, s)
		}
		if h, ok := impl.ParseTable(strconv.Itoa(v)); !ok || h != f {
			t.Errorf("ParseTable(%d) = %v, %v", v, h, ok)
		}
	}
	not, and, or, xor := algebra(t)
	if not(zero) != one || and(zero, one) != zero || and(one, one) != one || or(zero, one) != one || or(zero, zero) != zero || xor(one, one) != zero || xor(zero, one) != one {
		t.Error("the tables of no variables are not the constants")
	}
	if f, ok := impl.VariableTable(0, 0); ok || f != zero {
		t.Errorf("VariableTable(0, 0) = %v, %v", f, ok)
	}
}

func TestFiveVariablesUseAllBits(t *testing.T) {
	full := impl.Table{Bits: 5, Word: 1<<32 - 1}
	if h, ok := impl.NotTable(impl.Table{Bits: 5}); !ok || h != full {
		t.Errorf("NotTable of the constant 0 = %v, %v", h, ok)
	}
	if h, ok := impl.NotTable(full); !ok || h != (impl.Table{Bits: 5}) {
		t.Errorf("NotTable(%v) = %v, %v", full, h, ok)
	}
	last := impl.Table{Bits: 5, Word: 1 << 31}
	if impl.ValueAt(last, 31) != 1 || impl.ValueAt(last, 30) != 0 || impl.ValueAt(last, 32) != -1 || impl.CountOnes(last) != 1 || impl.IsConstant(last) {
		t.Errorf("%v is not 1 at the last input only", last)
	}
	if s := impl.FormatTable(last); s != strings.Repeat("0", 31)+"1" {
		t.Errorf("FormatTable(%v) = %q", last, s)
	}
	if f, ok := impl.ParseTable(strings.Repeat("0", 31) + "1"); !ok || f != last {
		t.Errorf("ParseTable reads %v, %v", f, ok)
	}
	if impl.CountOnes(full) != 32 || !impl.IsConstant(full) || !impl.IsConstant(impl.Table{Bits: 5}) || impl.IsConstant(impl.Table{Bits: 5, Word: 65535}) {
		t.Error("the constants of five variables are not recognized")
	}
}

func TestFormatTableReturnsValues(t *testing.T) {
	for _, c := range []struct {
		f    impl.Table
		want string
	}{
		{impl.Table{Bits: 1, Word: 1}, "10"},
		{impl.Table{Bits: 1, Word: 2}, "01"},
		{impl.Table{Bits: 2, Word: 6}, "0110"},
		{impl.Table{Bits: 2, Word: 1}, "1000"},
		{impl.Table{Bits: 3, Word: 232}, "00010111"},
		{impl.Table{Bits: 4, Word: 1}, "1000000000000000"},
	} {
		if got := impl.FormatTable(c.f); got != c.want {
			t.Errorf("FormatTable(%v) = %q, want %q", c.f, got, c.want)
		}
	}
	for _, f := range sampleTables() {
		want := ""
		for _, v := range values(f) {
			want += strconv.Itoa(v)
		}
		if got := impl.FormatTable(f); got != want {
			t.Errorf("FormatTable(%v) = %q, want %q", f, got, want)
		}
	}
}

func TestTableIsReadBack(t *testing.T) {
	for _, f := range append(sampleTables(), allTables(4)...) {
		s := impl.FormatTable(f)
		if got, ok := impl.ParseTable(s); got != f || !ok {
			t.Errorf("ParseTable(%q) = %v, %v, want %v", s, got, ok, f)
		}
	}
}

// TestTableStringsAreWrittenBack reads all short strings of some symbols: of these, exactly the results of FormatTable are accepted.
func TestTableStringsAreWrittenBack(t *testing.T) {
	formats := map[string]impl.Table{}
	for n := range 4 {
		for _, f := range allTables(n) {
			formats[impl.FormatTable(f)] = f
		}
	}
	for _, s := range append(stringsUpTo("01", 8), stringsUpTo("01/2x\x00\xff ", 4)...) {
		want, valid := formats[s]
		if got, ok := impl.ParseTable(s); got != want || ok != valid {
			t.Fatalf("ParseTable(%q) = %v, %v, want %v, %v", s, got, ok, want, valid)
		}
	}
}

func TestParseTableRejectsLengths(t *testing.T) {
	for length := range 300 {
		valid := length == 1 || length == 2 || length == 4 || length == 8 || length == 16 || length == 32
		for _, symbol := range []string{"0", "1"} {
			s := strings.Repeat(symbol, length)
			f, ok := impl.ParseTable(s)
			if ok != valid || !ok && f != (impl.Table{}) {
				t.Errorf("ParseTable(%q) = %v, %v", s, f, ok)
			}
		}
	}
	for _, length := range []int{1 << 10, 1 << 16, 1 << 20} {
		if f, ok := impl.ParseTable(strings.Repeat("1", length)); ok || f != (impl.Table{}) {
			t.Errorf("ParseTable of %d letters = %v, %v", length, f, ok)
		}
	}
}

// TestParseTableRejectsLetters has one other byte at each place of a text of a valid length.
func TestParseTableRejectsLetters(t *testing.T) {
	for n := range impl.MaxBits + 1 {
		for place := range 1 << n {
			for b := range 256 {
				if b == '0' || b == '1' {
					continue
				}
				text := []byte(strings.Repeat("1", 1<<n))
				text[place] = byte(b)
				if f, ok := impl.ParseTable(string(text)); ok || f != (impl.Table{}) {
					t.Fatalf("ParseTable(%q) = %v, %v", text, f, ok)
				}
			}
		}
	}
	for _, s := range []string{"é", "0é1", "１", "-1", "+1", "0 ", " 0", "01\n", "0x", "0b", "TF", "0,1", "0110\x00\x00\x00\x00"} {
		if f, ok := impl.ParseTable(s); ok || f != (impl.Table{}) {
			t.Errorf("ParseTable(%q) = %v, %v", s, f, ok)
		}
	}
}
