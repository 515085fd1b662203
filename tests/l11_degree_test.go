package tests

import (
	"math"
	"slices"
	"strings"
	"testing"

	"loop.example/g03403/impl"
)

// manyTables returns all tables of at most four variables, and some of five.
func manyTables() []impl.Table {
	var l []impl.Table
	for n := range 5 {
		l = append(l, allTables(n)...)
	}
	return append(l, someTables(5)...)
}

// partsOf returns the parts of each set of n variables, itself included.
func partsOf(n int) [][]int {
	l := make([][]int, 1<<n)
	for set := range l {
		for part := range l {
			if isPart(part, set) {
				l[set] = append(l[set], part)
			}
		}
	}
	return l
}

// ofAll returns for each number of variables what it is asked for.
func ofAll[L any](of func(n int) L) []L {
	var l []L
	for n := range impl.MaxBits + 1 {
		l = append(l, of(n))
	}
	return l
}

// partsOfAll returns partsOf for each number of variables.
func partsOfAll() [][][]int { return ofAll(partsOf) }

// added returns for each set the sum of the list's numbers for its parts.
func added(parts [][]int, l []int) []int {
	sums := make([]int, len(l))
	for set := range l {
		for _, part := range parts[set] {
			sums[set] += l[part]
		}
	}
	return sums
}

// multiplied returns the coefficients of a polynomial times the variable i or, for the value 0, times 1 minus this variable, which the polynomial does not have.
func multiplied(n int, c []int, i, value int) []int {
	l := make([]int, len(c))
	for set, k := range c {
		if k == 0 {
			continue
		}
		bits := bitsOf(n, set)
		bits[i] = 1
		if value == 1 {
			l[inputOf(bits)] += k
		} else {
			l[set] += k
			l[inputOf(bits)] -= k
		}
	}
	return l
}

// expanded returns the integer coefficients of the table: those of the products that are 1 at one of its inputs with the value 1 and nowhere else, added up.
func expanded(f impl.Table) []int {
	total := make([]int, 1<<f.Bits)
	for x, v := range values(f) {
		if v == 0 {
			continue
		}
		c := make([]int, 1<<f.Bits)
		c[0] = 1
		for i, b := range bitsOf(f.Bits, x) {
			c = multiplied(f.Bits, c, i, b)
		}
		for set, k := range c {
			total[set] += k
		}
	}
	return total
}

// parities returns the numbers modulo 2.
func parities(l []int) []int {
	p := make([]int, len(l))
	for i, k := range l {
		p[i] = (k%2 + 2) % 2
	}
	return p
}

// degreeIn returns the greatest size of a set whose coefficient is not 0, or -1.
func degreeIn(c []int) int {
	degree := -1
	for set, k := range c {
		if k != 0 {
			degree = max(degree, sizeOf(set))
		}
	}
	return degree
}

// anfText returns the text of the products with an odd coefficient.
func anfText(n int, c []int) string {
	var products []string
	for set, k := range parities(c) {
		if k == 0 {
			continue
		}
		letters := ""
		for i, b := range bitsOf(n, set) {
			letters += strings.Repeat("abcde"[i:i+1], b)
		}
		if letters == "" {
			letters = "1"
		}
		products = append(products, letters)
	}
	if len(products) == 0 {
		return "0"
	}
	return strings.Join(products, "+")
}

// anfValue returns the value of a sum of products, by the letters of its text.
func anfValue(s string, bits []int) int {
	total := 0
	for _, product := range strings.Split(s, "+") {
		v := 1
		for _, c := range product {
			switch c {
			case '0':
				v = 0
			case '1':
			default:
				v = min(v, bits[c-'a'])
			}
		}
		total += v
	}
	return total % 2
}

func anfOf(t *testing.T, f impl.Table) impl.Table {
	t.Helper()
	g, ok := impl.AnfOf(f)
	return tables{t}.checked(g, ok, f.Bits, "AnfOf", f)
}

// realCoefficients has as many coefficients as the table has inputs.
func realCoefficients(t *testing.T, f impl.Table) []int {
	t.Helper()
	c := impl.RealCoefficients(f)
	if len(c) != 1<<f.Bits {
		t.Fatalf("RealCoefficients(%v) = %v", f, c)
	}
	return c
}

// checkNoCoefficients has that no table has these coefficients.
func checkNoCoefficients(t *testing.T, c []int) {
	t.Helper()
	if f, ok := impl.TableOfCoefficients(c); ok || f != (impl.Table{}) {
		t.Fatalf("TableOfCoefficients(%v) = %v, %v", c, f, ok)
	}
}

// checkNoAnf has that the text is not one of n variables.
func checkNoAnf(t *testing.T, n int, s string) {
	t.Helper()
	if f, ok := impl.ParseAnf(n, s); ok || f != (impl.Table{}) {
		t.Fatalf("ParseAnf(%d, %q) = %v, %v", n, s, f, ok)
	}
}

// checkAnf has that the text is that of the table.
func checkAnf(t *testing.T, f impl.Table, s string) {
	t.Helper()
	if got := impl.FormatAnf(f); got != s {
		t.Fatalf("FormatAnf(%v) = %q, want %q", f, got, s)
	}
	if g, ok := impl.ParseAnf(f.Bits, s); !ok || g != f {
		t.Fatalf("ParseAnf(%d, %q) = %v, %v, want %v", f.Bits, s, g, ok, f)
	}
}

func TestAnfAddsUpToValues(t *testing.T) {
	parts := partsOfAll()
	for _, f := range manyTables() {
		c := values(anfOf(t, f))
		if got := parities(added(parts[f.Bits], c)); !slices.Equal(got, values(f)) {
			t.Fatalf("AnfOf(%v) = %v, with the values %v", f, c, got)
		}
	}
}

func TestAnfOfIsItsOwnInverse(t *testing.T) {
	for _, f := range manyTables() {
		g := anfOf(t, f)
		if got := anfOf(t, g); got != f {
			t.Fatalf("AnfOf(%v) = %v, and AnfOf of it %v", f, g, got)
		}
	}
}

func TestRealCoefficientsAddUpToValues(t *testing.T) {
	parts := partsOfAll()
	for _, f := range manyTables() {
		c := realCoefficients(t, f)
		if got := added(parts[f.Bits], c); !slices.Equal(got, values(f)) {
			t.Fatalf("RealCoefficients(%v) = %v, with the values %v", f, c, got)
		}
	}
}

func TestTableOfCoefficientsReturnsTable(t *testing.T) {
	for _, f := range manyTables() {
		c := realCoefficients(t, f)
		if got, ok := impl.TableOfCoefficients(c); !ok || got != f {
			t.Fatalf("TableOfCoefficients(%v) = %v, %v, want %v", c, got, ok, f)
		}
	}
}

// TestCoefficientsAreExpanded finds them by multiplying out.
func TestCoefficientsAreExpanded(t *testing.T) {
	for _, f := range sampleTables() {
		want := expanded(f)
		if got := realCoefficients(t, f); !slices.Equal(got, want) {
			t.Fatalf("RealCoefficients(%v) = %v, want %v", f, got, want)
		}
		if got := anfOf(t, f); !slices.Equal(values(got), parities(want)) {
			t.Fatalf("AnfOf(%v) = %v, want %v", f, values(got), parities(want))
		}
		if got, ok := impl.TableOfCoefficients(want); !ok || got != f {
			t.Fatalf("TableOfCoefficients(%v) = %v, %v, want %v", want, got, ok, f)
		}
		if got := impl.RealDegree(f); got != degreeIn(want) {
			t.Fatalf("RealDegree(%v) = %d, want %d", f, got, degreeIn(want))
		}
		if got := impl.DegreeMod2(f); got != degreeIn(parities(want)) {
			t.Fatalf("DegreeMod2(%v) = %d, want %d", f, got, degreeIn(parities(want)))
		}
		checkAnf(t, f, anfText(f.Bits, want))
	}
}

func TestCoefficientsAreOddWhereAnfIs(t *testing.T) {
	for _, f := range manyTables() {
		c, anf := realCoefficients(t, f), anfOf(t, f)
		if !slices.Equal(parities(c), values(anf)) {
			t.Fatalf("RealCoefficients(%v) = %v, AnfOf = %v", f, c, values(anf))
		}
	}
}

func TestDegreesAreGreatest(t *testing.T) {
	for _, f := range manyTables() {
		if c := realCoefficients(t, f); impl.RealDegree(f) != degreeIn(c) {
			t.Fatalf("RealDegree(%v) = %d, RealCoefficients = %v", f, impl.RealDegree(f), c)
		}
		if c := values(anfOf(t, f)); impl.DegreeMod2(f) != degreeIn(c) {
			t.Fatalf("DegreeMod2(%v) = %d, AnfOf = %v", f, impl.DegreeMod2(f), c)
		}
	}
}

func TestFormatAnfIsReadBack(t *testing.T) {
	for _, f := range manyTables() {
		s := impl.FormatAnf(f)
		if got, ok := impl.ParseAnf(f.Bits, s); !ok || got != f {
			t.Fatalf("ParseAnf(%d, %q) = %v, %v, want %v", f.Bits, s, got, ok, f)
		}
	}
}

func TestFormatAnfHasValues(t *testing.T) {
	for _, f := range manyTables() {
		s := impl.FormatAnf(f)
		for x, v := range values(f) {
			if got := anfValue(s, bitsOf(f.Bits, x)); got != v {
				t.Fatalf("FormatAnf(%v) = %q, which is %d at %d", f, s, got, x)
			}
		}
	}
}

func TestDegreesOfTables(t *testing.T) {
	for _, c := range []struct {
		f          string
		c          []int
		mod2, real int
		anf        string
	}{
		{"0", []int{0}, -1, -1, "0"},
		{"1", []int{1}, 0, 0, "1"},
		{"00", []int{0, 0}, -1, -1, "0"},
		{"11", []int{1, 0}, 0, 0, "1"},
		{"01", []int{0, 1}, 1, 1, "a"},
		{"10", []int{1, -1}, 1, 1, "1+a"},
		{"0001", []int{0, 0, 0, 1}, 2, 2, "ab"},
		{"0111", []int{0, 1, 1, -1}, 2, 2, "a+b+ab"},
		{"0110", []int{0, 1, 1, -2}, 1, 2, "a+b"},
		{"1001", []int{1, -1, -1, 2}, 1, 2, "1+a+b"},
		{"1000", []int{1, -1, -1, 1}, 2, 2, "1+a+b+ab"},
		{"1110", []int{1, 0, 0, -1}, 2, 2, "1+ab"},
		{"0100", []int{0, 1, 0, -1}, 2, 2, "a+ab"},
		{"0010", []int{0, 0, 1, -1}, 2, 2, "b+ab"},
		{"0011", []int{0, 0, 1, 0}, 1, 1, "b"},
		{"1101", []int{1, 0, -1, 1}, 2, 2, "1+b+ab"},
		{"00000001", []int{0, 0, 0, 0, 0, 0, 0, 1}, 3, 3, "abc"},
		{"01111111", []int{0, 1, 1, -1, 1, -1, -1, 1}, 3, 3, "a+b+ab+c+ac+bc+abc"},
		{"00010111", []int{0, 0, 0, 1, 0, 1, 1, -2}, 2, 3, "ab+ac+bc"},
		{"01101001", []int{0, 1, 1, -2, 1, -2, -2, 4}, 1, 3, "a+b+c"},
		{"10010110", []int{1, -1, -1, 2, -1, 2, 2, -4}, 1, 3, "1+a+b+c"},
		{"01010011", []int{0, 1, 0, 0, 0, -1, 1, 0}, 2, 2, "a+ac+bc"},
		{"01111110", []int{0, 1, 1, -1, 1, -1, -1, 0}, 2, 2, "a+b+ab+c+ac+bc"},
		{"10000001", []int{1, -1, -1, 1, -1, 1, 1, 0}, 2, 2, "1+a+b+ab+c+ac+bc"},
		{"0001000100011110", []int{0, 0, 0, 1, 0, 0, 0, 0, 0, 0, 0, 0, 1, 0, 0, -2}, 2, 4, "ab+cd"},
		{"0000000011111111", []int{0, 0, 0, 0, 0, 0, 0, 0, 1, 0, 0, 0, 0, 0, 0, 0}, 1, 1, "d"},
		{"0000000000000001", []int{0, 0, 0, 0, 0, 0, 0, 0, 0, 0, 0, 0, 0, 0, 0, 1}, 4, 4, "abcd"},
		{"0110100110010110", []int{0, 1, 1, -2, 1, -2, -2, 4, 1, -2, -2, 4, -2, 4, 4, -8}, 1, 4, "a+b+c+d"},
	} {
		f, _ := impl.ParseTable(c.f)
		if got := impl.RealCoefficients(f); !slices.Equal(got, c.c) {
			t.Errorf("RealCoefficients(%s) = %v, want %v", c.f, got, c.c)
		}
		if got := values(anfOf(t, f)); !slices.Equal(got, parities(c.c)) {
			t.Errorf("AnfOf(%s) = %v, want %v", c.f, got, parities(c.c))
		}
		if impl.DegreeMod2(f) != c.mod2 || impl.RealDegree(f) != c.real {
			t.Errorf("DegreeMod2(%s) = %d, want %d, RealDegree = %d, want %d", c.f, impl.DegreeMod2(f), c.mod2, impl.RealDegree(f), c.real)
		}
		if got, ok := impl.TableOfCoefficients(c.c); !ok || got != f {
			t.Errorf("TableOfCoefficients(%v) = %v, %v, want %v", c.c, got, ok, f)
		}
		checkAnf(t, f, c.anf)
	}
}

// bySize returns the list of all sets of five variables that has for each the number of its size.
func bySize(l ...int) []int {
	c := make([]int, 32)
	for set := range c {
		c[set] = l[sizeOf(set)]
	}
	return c
}

// allFive has all products of five letters, and so all coefficients modulo 2.
const allFive = "1+a+b+ab+c+ac+bc+abc+d+ad+bd+abd+cd+acd+bcd+abcd+e+ae+be+abe+ce+ace+bce+abce+de+ade+bde+abde+cde+acde+bcde+abcde"

func TestDegreesOfFiveVariables(t *testing.T) {
	for _, c := range []struct {
		f          impl.Table
		c          []int
		mod2, real int
		anf        string
	}{
		{impl.Table{Bits: 5}, bySize(0, 0, 0, 0, 0, 0), -1, -1, "0"},
		{impl.Table{Bits: 5, Word: 1<<32 - 1}, bySize(1, 0, 0, 0, 0, 0), 0, 0, "1"},
		{impl.Table{Bits: 5, Word: 1}, bySize(1, -1, 1, -1, 1, -1), 5, 5, allFive},
		{impl.Table{Bits: 5, Word: 1<<32 - 2}, bySize(0, 1, -1, 1, -1, 1), 5, 5, allFive[2:]},
		{impl.Table{Bits: 5, Word: 1 << 31}, bySize(0, 0, 0, 0, 0, 1), 5, 5, "abcde"},
		{impl.Table{Bits: 5, Word: 1<<31 - 1}, bySize(1, 0, 0, 0, 0, -1), 5, 5, "1+abcde"},
		{tableOf(5, func(bits []int) int { return sum(bits) % 2 }), bySize(0, 1, -2, 4, -8, 16), 1, 5, "a+b+c+d+e"},
		{tableOf(5, func(bits []int) int { return (sum(bits) + 1) % 2 }), bySize(1, -1, 2, -4, 8, -16), 1, 5, "1+a+b+c+d+e"},
		{tableOf(5, func(bits []int) int { return sum(bits) / 3 }), bySize(0, 0, 0, 1, -3, 6), 4, 5, "abc+abd+acd+bcd+abcd+abe+ace+bce+abce+ade+bde+abde+cde+acde+bcde"},
		{tableOf(5, func(bits []int) int { return sum(bits) / 2 % 2 }), bySize(0, 0, 1, -2, 2, 0), 2, 4, "ab+ac+bc+ad+bd+cd+ae+be+ce+de"},
	} {
		if got := impl.RealCoefficients(c.f); !slices.Equal(got, c.c) {
			t.Errorf("RealCoefficients(%v) = %v, want %v", c.f, got, c.c)
		}
		if got := values(anfOf(t, c.f)); !slices.Equal(got, parities(c.c)) {
			t.Errorf("AnfOf(%v) = %v, want %v", c.f, got, parities(c.c))
		}
		if impl.DegreeMod2(c.f) != c.mod2 || impl.RealDegree(c.f) != c.real {
			t.Errorf("DegreeMod2(%v) = %d, want %d, RealDegree = %d, want %d", c.f, impl.DegreeMod2(c.f), c.mod2, impl.RealDegree(c.f), c.real)
		}
		if got, ok := impl.TableOfCoefficients(c.c); !ok || got != c.f {
			t.Errorf("TableOfCoefficients(%v) = %v, %v, want %v", c.c, got, ok, c.f)
		}
		checkAnf(t, c.f, c.anf)
	}
}

// TestDegreesOfConstants includes tables of no variables.
func TestDegreesOfConstants(t *testing.T) {
	for n := range impl.MaxBits + 1 {
		zero, one := impl.Table{Bits: n}, impl.Table{Bits: n, Word: 1<<(1<<n) - 1}
		none := make([]int, 1<<n)
		single := slices.Clone(none)
		single[0] = 1
		for _, c := range []struct {
			f      impl.Table
			c      []int
			word   int
			degree int
			anf    string
		}{{zero, none, 0, -1, "0"}, {one, single, 1, 0, "1"}} {
			if got := impl.RealCoefficients(c.f); !slices.Equal(got, c.c) {
				t.Errorf("RealCoefficients(%v) = %v, want %v", c.f, got, c.c)
			}
			if got := anfOf(t, c.f); got.Word != c.word {
				t.Errorf("AnfOf(%v) = %v", c.f, got)
			}
			if impl.DegreeMod2(c.f) != c.degree || impl.RealDegree(c.f) != c.degree {
				t.Errorf("DegreeMod2(%v) = %d, RealDegree = %d, want %d", c.f, impl.DegreeMod2(c.f), impl.RealDegree(c.f), c.degree)
			}
			if got, ok := impl.TableOfCoefficients(c.c); !ok || got != c.f {
				t.Errorf("TableOfCoefficients(%v) = %v, %v, want %v", c.c, got, ok, c.f)
			}
			checkAnf(t, c.f, c.anf)
		}
	}
}

// TestDegreesOfOtherTables has that only the constant 0 has a degree of -1, and only the constant 1 one of 0.
func TestDegreesOfOtherTables(t *testing.T) {
	for _, f := range manyTables() {
		l := values(f)
		low, high := slices.Min(l), slices.Max(l)
		for _, degree := range []int{impl.DegreeMod2(f), impl.RealDegree(f)} {
			if (degree == -1) != (high == 0) || (degree == 0) != (low == 1) || degree < -1 || degree > f.Bits {
				t.Fatalf("DegreeMod2(%v) = %d, RealDegree = %d", f, impl.DegreeMod2(f), impl.RealDegree(f))
			}
		}
	}
}

// TestDegreesAreInOrder has the relations of degrees among each other and with trees and sensitivity.
func TestDegreesAreInOrder(t *testing.T) {
	for _, f := range sampleTables() {
		mod2, degree, sensitivity := impl.DegreeMod2(f), impl.RealDegree(f), impl.SensitivityOf(f)
		if mod2 > degree || degree > sensitivity*sensitivity {
			t.Fatalf("DegreeMod2(%v) = %d, RealDegree = %d, SensitivityOf = %d", f, mod2, degree, sensitivity)
		}
		if f.Bits < 5 && degree > impl.LeastDepth(f) {
			t.Fatalf("RealDegree(%v) = %d, LeastDepth = %d", f, degree, impl.LeastDepth(f))
		}
	}
}

// TestFullDegreeCountsOnes has that the product of all variables is there modulo 2 if the number of ones is odd.
func TestFullDegreeCountsOnes(t *testing.T) {
	for _, f := range manyTables() {
		full := impl.DegreeMod2(f) == f.Bits
		if odd := sum(values(f))%2 == 1; full != odd {
			t.Fatalf("DegreeMod2(%v) = %d", f, impl.DegreeMod2(f))
		}
	}
}

func TestDegreesOfNegations(t *testing.T) {
	for _, f := range sampleTables() {
		g, _ := impl.NotTable(f)
		want := realCoefficients(t, f)
		for set := range want {
			want[set] = -want[set]
		}
		want[0]++
		if got := realCoefficients(t, g); !slices.Equal(got, want) {
			t.Fatalf("RealCoefficients(%v) = %v, want %v", g, got, want)
		}
		bits := values(anfOf(t, f))
		bits[0] = 1 - bits[0]
		if got := values(anfOf(t, g)); !slices.Equal(got, bits) {
			t.Fatalf("AnfOf(%v) = %v, want %v", g, got, bits)
		}
	}
}

// pairOf is two tables of as many variables.
type pairOf struct{ f, g impl.Table }

// somePairs returns pairs of tables of n variables.
func somePairs(n int) []pairOf {
	l := tablesOf(n)
	var pairs []pairOf
	for k, f := range l {
		pairs = append(pairs, pairOf{f: f, g: l[(7*k+3)%len(l)]})
	}
	return pairs
}

func TestAnfOfSums(t *testing.T) {
	_, _, _, xor := algebra(t)
	for n := range impl.MaxBits + 1 {
		for _, p := range somePairs(n) {
			f, g := p.f, p.g
			if got, want := anfOf(t, xor(f, g)), xor(anfOf(t, f), anfOf(t, g)); got != want {
				t.Fatalf("AnfOf of the sum of %v and %v = %v, want %v", f, g, got, want)
			}
		}
	}
}

// TestDegreesOfSingleProducts has all tables whose value is a product of variables.
func TestDegreesOfSingleProducts(t *testing.T) {
	for n := range impl.MaxBits + 1 {
		for set := range 1 << n {
			c := make([]int, 1<<n)
			c[set] = 1
			f := tableOf(n, func(bits []int) int {
				if isPart(set, inputOf(bits)) {
					return 1
				}
				return 0
			})
			if got := realCoefficients(t, f); !slices.Equal(got, c) {
				t.Fatalf("RealCoefficients(%v) = %v, want %v", f, got, c)
			}
			if got := anfOf(t, f); !slices.Equal(values(got), c) {
				t.Fatalf("AnfOf(%v) = %v, want %v", f, got, c)
			}
			if impl.DegreeMod2(f) != sizeOf(set) || impl.RealDegree(f) != sizeOf(set) {
				t.Fatalf("DegreeMod2(%v) = %d, RealDegree = %d, want %d", f, impl.DegreeMod2(f), impl.RealDegree(f), sizeOf(set))
			}
			checkAnf(t, f, anfText(n, c))
		}
	}
}

// TestCoefficientsOfRestrictions has that with a variable 0 its products are 0, and with it 1 they lose it.
func TestCoefficientsOfRestrictions(t *testing.T) {
	s := tables{t}
	for _, f := range sampleTables() {
		c := realCoefficients(t, f)
		for i := range f.Bits {
			zero, one := make([]int, len(c)/2), make([]int, len(c)/2)
			for set := range zero {
				zero[set] = c[withBit(f.Bits-1, set, i, 0)]
				one[set] = zero[set] + c[withBit(f.Bits-1, set, i, 1)]
			}
			for b, want := range [][]int{zero, one} {
				g := s.restrict(f, i, b)
				if got := realCoefficients(t, g); !slices.Equal(got, want) {
					t.Fatalf("RealCoefficients(%v) = %v, want %v", g, got, want)
				}
			}
		}
	}
}

// TestCoefficientsOfUselessVariables adds a variable that does not matter at each place.
func TestCoefficientsOfUselessVariables(t *testing.T) {
	s := tables{t}
	for n := range impl.MaxBits {
		for _, f := range tablesOf(n) {
			for i := range n + 1 {
				g := s.join(f, f, i)
				want := make([]int, 2<<n)
				for set, k := range realCoefficients(t, f) {
					want[withBit(n, set, i, 0)] = k
				}
				if got := realCoefficients(t, g); !slices.Equal(got, want) {
					t.Fatalf("RealCoefficients(%v) = %v, want %v", g, got, want)
				}
				if impl.DegreeMod2(g) != impl.DegreeMod2(f) || impl.RealDegree(g) != impl.RealDegree(f) {
					t.Fatalf("DegreeMod2(%v) = %d, RealDegree = %d, of %v %d, %d", g, impl.DegreeMod2(g), impl.RealDegree(g), f, impl.DegreeMod2(f), impl.RealDegree(f))
				}
			}
		}
	}
}

// TestCoefficientsHaveVariablesThatMatter has that each of these is in a product of either polynomial, and no other one is.
func TestCoefficientsHaveVariablesThatMatter(t *testing.T) {
	for _, f := range sampleTables() {
		for _, c := range [][]int{realCoefficients(t, f), values(anfOf(t, f))} {
			var found []int
			for i := range f.Bits {
				in := false
				for set, k := range c {
					in = in || k != 0 && isPart(1<<i, set)
				}
				if in {
					found = append(found, i)
				}
			}
			if !slices.Equal(found, mattering(f)) {
				t.Fatalf("coefficients %v of %v have the variables %v", c, f, found)
			}
		}
	}
}

func TestCoefficientsOfPermutations(t *testing.T) {
	s := tables{t}
	for n := range 4 {
		for _, f := range allTables(n) {
			c := realCoefficients(t, f)
			for _, p := range orders(n) {
				g := s.permute(f, p)
				want := make([]int, len(c))
				for set, k := range c {
					want[permuted(set, p)] = k
				}
				if got := realCoefficients(t, g); !slices.Equal(got, want) {
					t.Fatalf("RealCoefficients(%v) = %v, want %v", g, got, want)
				}
			}
		}
	}
}

func TestDegreesOfShifts(t *testing.T) {
	s := tables{t}
	for n := range impl.MaxBits + 1 {
		for _, f := range tablesOf(n) {
			for x := range 1 << n {
				g := s.shift(f, x)
				if impl.DegreeMod2(g) != impl.DegreeMod2(f) || impl.RealDegree(g) != impl.RealDegree(f) {
					t.Fatalf("DegreeMod2(%v) = %d, RealDegree = %d, of %v %d, %d", g, impl.DegreeMod2(g), impl.RealDegree(g), f, impl.DegreeMod2(f), impl.RealDegree(f))
				}
			}
		}
	}
}

// listsOf returns all lists of a length with numbers from low to high.
func listsOf(length, low, high int) [][]int {
	l := [][]int{nil}
	for range length {
		var next [][]int
		for _, c := range l {
			for k := low; k <= high; k++ {
				next = append(next, append(slices.Clone(c), k))
			}
		}
		l = next
	}
	return l
}

// checkCoefficients checks TableOfCoefficients by adding up, and returns whether there is a table.
func checkCoefficients(t *testing.T, parts [][]int, c []int) bool {
	t.Helper()
	l := added(parts, c)
	want := impl.Table{}
	valid := !slices.ContainsFunc(l, func(v int) bool { return v < 0 || v > 1 })
	if valid {
		n := impl.MaxBits
		for 1<<n > len(c) {
			n--
		}
		want = tableOf(n, func(bits []int) int { return l[inputOf(bits)] })
	}
	if got, ok := impl.TableOfCoefficients(c); ok != valid || got != want {
		t.Fatalf("TableOfCoefficients(%v) = %v, %v, want %v, %v", c, got, ok, want, valid)
	}
	return valid
}

// TestTableOfCoefficientsOfAllLists counts as many lists with a table as there are tables.
func TestTableOfCoefficientsOfAllLists(t *testing.T) {
	for _, c := range []struct{ n, low, high int }{{0, -1002, 1002}, {1, -40, 40}, {2, -4, 4}} {
		parts, count := partsOf(c.n), 0
		for _, l := range listsOf(1<<c.n, c.low, c.high) {
			if checkCoefficients(t, parts, l) {
				count++
			}
		}
		if count != 1<<(1<<c.n) {
			t.Errorf("%d lists of %d coefficients have a table", count, 1<<c.n)
		}
	}
}

// TestTableOfCoefficientsOfOtherValues changes single coefficients and pairs of them, so that often only a few values are not 0 or 1.
func TestTableOfCoefficientsOfOtherValues(t *testing.T) {
	parts := partsOfAll()
	for _, f := range sampleTables() {
		for set := range 1 << f.Bits {
			for _, change := range []int{-1, 1, -2, 2, 4, 16, 100} {
				c := realCoefficients(t, f)
				c[set] += change
				checkCoefficients(t, parts[f.Bits], c)
				c[len(c)-1] -= change
				checkCoefficients(t, parts[f.Bits], c)
			}
		}
	}
}

// TestTableOfCoefficientsRejectsSingleValues has lists whose values are 0 but for a single input.
func TestTableOfCoefficientsRejectsSingleValues(t *testing.T) {
	for n := range impl.MaxBits + 1 {
		for x := range 1 << n {
			single := expanded(impl.Table{Bits: n, Word: 1 << x})
			for _, v := range []int{-1000, -3, -2, -1, 2, 3, 4, 255, 256, 257, 999, 1000} {
				c := slices.Clone(single)
				for set := range c {
					c[set] *= v
				}
				checkNoCoefficients(t, c)
			}
		}
	}
}

// TestTableOfCoefficientsRejectsRange has coefficients beyond the limit, also those that are as good as others modulo a power of 2.
func TestTableOfCoefficientsRejectsRange(t *testing.T) {
	beyond := []int{math.MinInt, math.MinInt + 1, math.MinInt / 2, -1 << 32, -1 << 31, -1 << 16, -65535, -1002, -1001, 1001, 1002, 1024, 1025, 65536, 65537, 1 << 31, 1 << 32, 1<<32 + 1, 1 << 62, math.MaxInt - 1, math.MaxInt}
	for n := range impl.MaxBits + 1 {
		for _, f := range someTables(n)[:8] {
			for set := range 1 << n {
				for _, k := range append(beyond, -1000, 1000) {
					c := realCoefficients(t, f)
					c[set] = k
					checkNoCoefficients(t, c)
					c = realCoefficients(t, f)
					c[set] += k
					checkNoCoefficients(t, c)
				}
			}
		}
		for _, k := range append(beyond, -1000, 1000) {
			checkNoCoefficients(t, slices.Repeat([]int{k}, 1<<n))
		}
	}
	for _, c := range [][]int{
		{math.MinInt, math.MinInt}, {math.MaxInt, math.MaxInt}, {1 << 62, 1 << 62, 1 << 62, 1 << 62}, {0, math.MinInt, math.MinInt, 0}, {0, math.MinInt, math.MinInt, 1},
		{0, 1 << 62, 1 << 62, math.MinInt}, {1, math.MaxInt, math.MaxInt, 1}, {math.MaxInt, 1, math.MinInt, 1}, {0, 1000, -1000, 0}, {1, 1000, -1000, 0}, {1000, -1000}, {1000, -999}, {-1000, 1000}, {1001, -1000}, {1001, -1001},
	} {
		checkNoCoefficients(t, c)
	}
}

// TestTableOfCoefficientsRejectsLengths has lists of coefficients that would be valid but for their length.
func TestTableOfCoefficientsRejectsLengths(t *testing.T) {
	for length := range 140 {
		for _, first := range []int{0, 1} {
			c := make([]int, length)
			if length > 0 {
				c[0] = first
			}
			valid := slices.Contains([]int{1, 2, 4, 8, 16, 32}, length)
			if f, ok := impl.TableOfCoefficients(c); ok != valid || !valid && f != (impl.Table{}) {
				t.Errorf("TableOfCoefficients(%v) = %v, %v", c, f, ok)
			}
		}
	}
	for _, length := range []int{255, 256, 512, 1023, 1024, 1 << 16, 1 << 20} {
		checkNoCoefficients(t, make([]int, length))
	}
	for _, f := range sampleTables() {
		c := realCoefficients(t, f)
		checkNoCoefficients(t, append(slices.Clone(c), slices.Repeat([]int{0}, 64-len(c))...))
		if len(c) > 2 {
			checkNoCoefficients(t, c[1:])
			checkNoCoefficients(t, c[:len(c)-1])
			checkNoCoefficients(t, append(c, 0))
		}
	}
	checkNoCoefficients(t, nil)
	checkNoCoefficients(t, []int{})
	checkNoCoefficients(t, make([]int, 0, 4))
}

// TestCoefficientsAreNotModified looks at a list and its unused capacity, of which nothing is read.
func TestCoefficientsAreNotModified(t *testing.T) {
	for _, f := range sampleTables() {
		for _, more := range [][]int{{}, {0}, {7, -7, 1001}, slices.Repeat([]int{math.MinInt}, 32)} {
			c := realCoefficients(t, f)
			for _, spoil := range []int{0, 1, 2000} {
				memory := append(slices.Clone(c), more...)
				memory[len(c)-1] += spoil
				want := slices.Clone(memory)
				got, ok := impl.TableOfCoefficients(memory[:len(c)])
				if !slices.Equal(memory, want) {
					t.Fatalf("TableOfCoefficients changes %v to %v", want, memory)
				}
				if alone, also := impl.TableOfCoefficients(slices.Clip(slices.Clone(want[:len(c)]))); got != alone || ok != also || spoil == 0 && got != f {
					t.Fatalf("TableOfCoefficients(%v) = %v, %v, with more behind it %v, %v", want[:len(c)], alone, also, got, ok)
				}
			}
		}
	}
}

// TestRealCoefficientsAreNewLists overwrites each result, with its unused capacity, and compares the other ones.
func TestRealCoefficientsAreNewLists(t *testing.T) {
	for _, f := range sampleTables() {
		first := realCoefficients(t, f)
		want := slices.Clone(first)
		second := realCoefficients(t, f)
		first = first[:cap(first)]
		for k := range first {
			first[k] = 99
		}
		if third := realCoefficients(t, f); !slices.Equal(second, want) || !slices.Equal(third, want) {
			t.Fatalf("RealCoefficients(%v) = %v and %v, want %v", f, second, third, want)
		}
	}
}

// writtenAnfs returns the texts of all tables of n variables, for n at most 4.
func writtenAnfs(n int) map[string]impl.Table {
	written := map[string]impl.Table{}
	parts := partsOf(n)
	for w := range 1 << (1 << n) {
		c := values(impl.Table{Bits: n, Word: w})
		l := parities(added(parts, c))
		written[anfText(n, c)] = tableOf(n, func(bits []int) int { return l[inputOf(bits)] })
	}
	return written
}

// checkAnfText checks ParseAnf of a text for few variables, from the texts of all tables.
func checkAnfText(t *testing.T, s string, written []map[string]impl.Table) {
	t.Helper()
	for n := range written {
		want, valid := written[n][s]
		if f, ok := impl.ParseAnf(n, s); f != want || ok != valid {
			t.Fatalf("ParseAnf(%d, %q) = %v, %v, want %v, %v", n, s, f, ok, want, valid)
		}
	}
}

// TestParseAnfAcceptsWrittenTexts reads short strings of some symbols, and texts with bytes exchanged, left out and put in.
func TestParseAnfAcceptsWrittenTexts(t *testing.T) {
	var written []map[string]impl.Table
	for n := range 4 {
		written = append(written, writtenAnfs(n))
		if len(written[n]) != 1<<(1<<n) {
			t.Fatalf("%d texts of %d variables", len(written[n]), n)
		}
	}
	for _, s := range append(append(stringsUpTo("1ab+", 8), stringsUpTo("01ac+!", 5)...), stringsUpTo("01a+!- A&^|\x00\xff", 4)...) {
		checkAnfText(t, s, written)
	}
	for s := range written[3] {
		for k := range len(s) + 1 {
			for _, in := range []string{"", "+", "0", "1", "a", "c", "d", "!", "-", " ", "++", "1+", "+1", "+0", "0+", "a+", "+a", "+c", "\x00", "\xff"} {
				checkAnfText(t, s[:k]+in+s[k:], written)
				if k < len(s) {
					checkAnfText(t, s[:k]+in+s[k+1:], written)
				}
			}
		}
		checkAnfText(t, s+"+"+s, written)
		checkAnfText(t, strings.ToUpper(s), written)
		checkAnfText(t, "+"+s, written)
		checkAnfText(t, "("+s+")", written)
	}
	for b := range 256 {
		for _, s := range []string{"", "a", "1", "0", "a+", "1+a", "ab+"} {
			checkAnfText(t, s+string([]byte{byte(b)}), written)
			checkAnfText(t, string([]byte{byte(b)})+s, written)
		}
	}
}

// TestParseAnfRejectsOtherOrders exchanges, repeats and negates products of texts of all numbers of variables.
func TestParseAnfRejectsOtherOrders(t *testing.T) {
	for _, f := range sampleTables() {
		s := impl.FormatAnf(f)
		products := strings.Split(s, "+")
		for k, product := range products {
			for j := range k {
				l := slices.Clone(products)
				l[k], l[j] = l[j], l[k]
				checkNoAnf(t, f.Bits, strings.Join(l, "+"))
			}
			for j := range len(products) + 1 {
				checkNoAnf(t, f.Bits, strings.Join(slices.Insert(slices.Clone(products), j, product), "+"))
			}
			// Three times is once modulo 2, and yet another text.
			checkNoAnf(t, f.Bits, strings.Join(slices.Insert(slices.Clone(products), k, product, product), "+"))
			for p := range len(product) {
				checkNoAnf(t, f.Bits, strings.Join(slices.Replace(slices.Clone(products), k, k+1, product[:p]+"!"+product[p:]), "+"))
			}
			checkNoAnf(t, f.Bits, strings.Join(slices.Replace(slices.Clone(products), k, k+1, ""), "+"))
			if len(product) > 1 {
				checkNoAnf(t, f.Bits, strings.Join(slices.Replace(slices.Clone(products), k, k+1, product[1:]+product[:1]), "+"))
			}
		}
		for _, other := range []string{s + "+0", "0+" + s, s + "+", "+" + s, s + " ", " " + s, s + "\n", s + "\x00", s + "+" + s, strings.ReplaceAll(s, "+", "^"), strings.ReplaceAll(s, "+", "++")} {
			if other != s {
				checkNoAnf(t, f.Bits, other)
			}
		}
	}
}

func TestParseAnfRejects(t *testing.T) {
	for _, s := range []string{
		"", "+", "++", "0+0", "0+a", "a+0", "1+0", "0+1", "00", "01", "10", "11", "2", "-1", "+1", "1+", "1+1", "a+1", "b+a", "ab+b", "ab+a", "c+ab", "ba", "aa", "a+a", "a+a+a", "ab+ab", "a1", "1a", "0a", "a0",
		"!a", "!", "1+!a", "a!b", "!a!b", "!1", "!0", "a+!b", "a^b", "a|b", "a&b", "a*b", "a-b", "a b", "a, b", "a + b", " a", "a ", "a\n", "(a)", "2ab", "2a",
		"A", "aB", "f", "a+f", "abcdef", "ef", "`", "\x00", "a\x00", "\x00a", "\xff", "a+\xff", "é", "а", "１", "a＋b", "true", "none",
	} {
		for n := range impl.MaxBits + 1 {
			checkNoAnf(t, n, s)
		}
	}
}

// TestParseAnfRejectsLetters reads texts with letters that are no variables.
func TestParseAnfRejectsLetters(t *testing.T) {
	s := tables{t}
	for _, f := range sampleTables() {
		text := impl.FormatAnf(f)
		for n := range impl.MaxBits + 1 {
			beyond := strings.ContainsAny(text, "abcde"[n:])
			if beyond {
				checkNoAnf(t, n, text)
				continue
			}
			want := f
			for want.Bits < n {
				want = s.join(want, want, want.Bits)
			}
			for want.Bits > n {
				want = s.restrict(want, want.Bits-1, 0)
			}
			if got, ok := impl.ParseAnf(n, text); !ok || got != want {
				t.Fatalf("ParseAnf(%d, %q) = %v, %v, want %v", n, text, got, ok, want)
			}
		}
	}
}

// TestParseAnfLength has texts around the limit of 200 bytes, which the longest text of a table, that of all products, does not reach.
func TestParseAnfLength(t *testing.T) {
	if len(allFive) != 112 {
		t.Fatalf("%d bytes", len(allFive))
	}
	checkAnf(t, impl.Table{Bits: 5, Word: 1}, allFive)
	for _, length := range []int{113, 199, 200, 201, 202, 225, 1 << 10, 1 << 16, 1 << 20} {
		for _, s := range []string{"0", "1", "a", "+", "!", "a+", "1+", "abcde+", "ab+ac+bc+", allFive + "+", "\x00", "\xff", " "} {
			checkNoAnf(t, 5, strings.Repeat(s, length/len(s)+1)[:length])
		}
	}
}

func TestParseAnfRejectsNumbers(t *testing.T) {
	for _, n := range append(outOfRange, 6, 7, 8, 16, 31) {
		for _, s := range []string{"", "0", "1", "a", "1+a", "ab+ac+bc", allFive, "f", "!a"} {
			checkNoAnf(t, n, s)
		}
	}
}

func TestDegreesRejectTables(t *testing.T) {
	for _, f := range notTables() {
		if g, ok := impl.AnfOf(f); ok || g != (impl.Table{}) {
			t.Errorf("AnfOf(%v) = %v, %v", f, g, ok)
		}
		if c := impl.RealCoefficients(f); len(c) != 0 {
			t.Errorf("RealCoefficients(%v) = %v", f, c)
		}
		if impl.DegreeMod2(f) != -2 || impl.RealDegree(f) != -2 {
			t.Errorf("DegreeMod2(%v) = %d, RealDegree = %d", f, impl.DegreeMod2(f), impl.RealDegree(f))
		}
		if s := impl.FormatAnf(f); s != "" {
			t.Errorf("FormatAnf(%v) = %q", f, s)
		}
	}
}
