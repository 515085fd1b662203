package tests

import (
	"math"
	"math/big"
	"math/rand"
	"slices"
	"sync"
	"testing"

	"loop.example/g03403/impl"
)

// sumsOfVariables returns for each set of n variables the values of their sum modulo 2 at all inputs.
func sumsOfVariables(n int) [][]int {
	sums := make([][]int, 1<<n)
	for set := range sums {
		for x := range 1 << n {
			total := 0
			for i, b := range bitsOf(n, x) {
				total += b * bitsOf(n, set)[i]
			}
			sums[set] = append(sums[set], total%2)
		}
	}
	return sums
}

// sumsOfAll returns sumsOfVariables for each number of variables.
func sumsOfAll() [][][]int { return ofAll(sumsOfVariables) }

// differences returns the number of places at which the lists differ.
func differences(a, b []int) int {
	count := 0
	for x := range a {
		if a[x] != b[x] {
			count++
		}
	}
	return count
}

// counted returns for each list of values at how many inputs the table has them, minus the number of the others.
func counted(f impl.Table, lists [][]int) []int {
	l := values(f)
	var c []int
	for _, other := range lists {
		apart := differences(l, other)
		c = append(c, len(l)-apart-apart)
	}
	return c
}

// magnitudes returns the absolute values.
func magnitudes(l []int) []int {
	m := slices.Clone(l)
	for k := range m {
		m[k] = max(m[k], -m[k])
	}
	return m
}

// moved returns the values of the table at the exclusive or of each input and s.
func moved(f impl.Table, s int) []int {
	l := values(f)
	m := make([]int, len(l))
	for x := range l {
		m[x] = l[changed(f.Bits, x, s)]
	}
	return m
}

// immunity returns the greatest number of variables up to which all sets have the number 0.
func immunity(n int, c []int) int {
	for k := range n {
		for set, number := range c {
			if sizeOf(set) == k+1 && number != 0 {
				return k
			}
		}
	}
	return n
}

// spectrumOf has as many numbers as the table has inputs.
func spectrumOf(t *testing.T, f impl.Table) []int {
	t.Helper()
	c := impl.SpectrumOf(f)
	if len(c) != 1<<f.Bits {
		t.Fatalf("SpectrumOf(%v) = %v", f, c)
	}
	return c
}

func autocorrelationOf(t *testing.T, f impl.Table) []int {
	t.Helper()
	c := impl.AutocorrelationOf(f)
	if len(c) != 1<<f.Bits {
		t.Fatalf("AutocorrelationOf(%v) = %v", f, c)
	}
	return c
}

func dualOf(t *testing.T, f impl.Table) impl.Table {
	t.Helper()
	g, ok := impl.DualOfBent(f)
	return tables{t}.checked(g, ok, f.Bits, "DualOfBent", f)
}

// withSpectrum returns the table with these numbers, if there is one. It adds numbers of any size, with the sign of each sum of variables: with the right ones, only the number of inputs or its negative comes out.
func withSpectrum(n int, c []int, sums [][]int) (impl.Table, bool) {
	f := impl.Table{Bits: n}
	for x := range c {
		total := new(big.Int)
		for set, number := range c {
			if sums[set][x] == 0 {
				total.Add(total, big.NewInt(int64(number)))
			} else {
				total.Sub(total, big.NewInt(int64(number)))
			}
		}
		switch {
		case total.Cmp(big.NewInt(int64(len(c)))) == 0:
		case total.Cmp(big.NewInt(-int64(len(c)))) == 0:
			f.Word += 1 << x
		default:
			return impl.Table{}, false
		}
	}
	return f, true
}

// checkSpectrum checks TableOfSpectrum, and returns whether there is a table.
func checkSpectrum(t *testing.T, n int, c []int, sums [][]int) bool {
	t.Helper()
	want, valid := withSpectrum(n, c, sums)
	if got, ok := impl.TableOfSpectrum(c); got != want || ok != valid {
		t.Fatalf("TableOfSpectrum(%v) = %v, %v, want %v, %v", c, got, ok, want, valid)
	}
	return valid
}

// checkNoSpectrum has that no table has these numbers.
func checkNoSpectrum(t *testing.T, c []int) {
	t.Helper()
	if f, ok := impl.TableOfSpectrum(c); ok || f != (impl.Table{}) {
		t.Fatalf("TableOfSpectrum(%v) = %v, %v", c, f, ok)
	}
}

// checkNotBent has that there is no dual either.
func checkNotBent(t *testing.T, f impl.Table) {
	t.Helper()
	if g, ok := impl.DualOfBent(f); impl.IsBent(f) || ok || g != (impl.Table{}) {
		t.Fatalf("IsBent(%v) = %v, DualOfBent = %v, %v", f, impl.IsBent(f), g, ok)
	}
}

func TestSpectrumCountsInputs(t *testing.T) {
	sums := sumsOfAll()
	for _, f := range manyTables() {
		if got, want := spectrumOf(t, f), counted(f, sums[f.Bits]); !slices.Equal(got, want) {
			t.Fatalf("SpectrumOf(%v) = %v, want %v", f, got, want)
		}
	}
}

func TestSpectrumSquaresAddUp(t *testing.T) {
	for _, f := range manyTables() {
		total := 0
		for _, number := range spectrumOf(t, f) {
			total += number * number
		}
		if total != len(values(f))*len(values(f)) {
			t.Fatalf("the squares of %v of %v add up to %d", impl.SpectrumOf(f), f, total)
		}
	}
}

// TestSpectrumProductsAddUpToNothing has the products of numbers whose sets differ in the same variables.
func TestSpectrumProductsAddUpToNothing(t *testing.T) {
	for _, f := range sampleTables() {
		c := spectrumOf(t, f)
		for s := 1; s < len(c); s++ {
			total := 0
			for set, number := range c {
				total += number * c[changed(f.Bits, set, s)]
			}
			if total != 0 {
				t.Fatalf("the products of %v of %v add up to %d for %d", c, f, total, s)
			}
		}
	}
}

func TestTableOfSpectrumReturnsTable(t *testing.T) {
	sums := sumsOfAll()
	for _, f := range manyTables() {
		for _, c := range [][]int{spectrumOf(t, f), counted(f, sums[f.Bits])} {
			if got, ok := impl.TableOfSpectrum(c); !ok || got != f {
				t.Fatalf("TableOfSpectrum(%v) = %v, %v, want %v", c, got, ok, f)
			}
		}
	}
}

// alone returns a list of numbers for n variables with one that is not 0.
func alone(n, set, number int) []int {
	c := make([]int, 1<<n)
	c[set] = number
	return c
}

// TestSpectraOfTables has fixed numbers of both signs.
func TestSpectraOfTables(t *testing.T) {
	for _, c := range []struct {
		f             string
		spectrum      []int
		correlation   []int
		far, immunity int
		dual          string
	}{
		{"0", []int{1}, []int{1}, 0, 0, ""},
		{"1", []int{-1}, []int{1}, 0, 0, ""},
		{"00", []int{2, 0}, []int{2, 2}, 0, 1, ""},
		{"11", []int{-2, 0}, []int{2, 2}, 0, 1, ""},
		{"01", []int{0, 2}, []int{2, -2}, 0, 0, ""},
		{"10", []int{0, -2}, []int{2, -2}, 0, 0, ""},
		{"0000", []int{4, 0, 0, 0}, []int{4, 4, 4, 4}, 0, 2, ""},
		{"0001", []int{2, 2, 2, -2}, []int{4, 0, 0, 0}, 1, 0, "0001"},
		{"0111", []int{-2, 2, 2, 2}, []int{4, 0, 0, 0}, 1, 0, "1000"},
		{"1000", []int{2, -2, -2, -2}, []int{4, 0, 0, 0}, 1, 0, "0111"},
		{"1110", []int{-2, -2, -2, 2}, []int{4, 0, 0, 0}, 1, 0, "1110"},
		{"0100", []int{2, 2, -2, 2}, []int{4, 0, 0, 0}, 1, 0, "0010"},
		{"1101", []int{-2, 2, -2, -2}, []int{4, 0, 0, 0}, 1, 0, "1011"},
		{"0110", []int{0, 0, 0, 4}, []int{4, -4, -4, 4}, 0, 1, ""},
		{"1001", []int{0, 0, 0, -4}, []int{4, -4, -4, 4}, 0, 1, ""},
		{"0011", []int{0, 0, 4, 0}, []int{4, 4, -4, -4}, 0, 0, ""},
		{"00010111", []int{0, 4, 4, 0, 4, 0, 0, -4}, []int{8, 0, 0, 0, 0, 0, 0, -8}, 2, 0, ""},
		{"11101000", []int{0, -4, -4, 0, -4, 0, 0, 4}, []int{8, 0, 0, 0, 0, 0, 0, -8}, 2, 0, ""},
		{"00000001", []int{6, 2, 2, -2, 2, -2, -2, 2}, []int{8, 4, 4, 4, 4, 4, 4, 4}, 1, 0, ""},
		{"01010011", []int{0, 4, 4, 0, 0, 4, -4, 0}, []int{8, 0, 0, -8, 0, 0, 0, 0}, 2, 0, ""},
		{"01101001", alone(3, 7, 8), []int{8, -8, -8, 8, -8, 8, 8, -8}, 0, 2, ""},
		{"10000001", []int{4, 0, 0, -4, 0, -4, -4, 0}, []int{8, 0, 0, 0, 0, 0, 0, 8}, 2, 1, ""},
		{"01111110", []int{-4, 0, 0, 4, 0, 4, 4, 0}, []int{8, 0, 0, 0, 0, 0, 0, 8}, 2, 1, ""},
		{"0110100110010110", alone(4, 15, 16), []int{16, -16, -16, 16, -16, 16, 16, -16, -16, 16, 16, -16, 16, -16, -16, 16}, 0, 3, ""},
		{"0001000100011110", []int{4, 4, 4, -4, 4, 4, 4, -4, 4, 4, 4, -4, -4, -4, -4, 4}, alone(4, 0, 16), 6, 0, "0001000100011110"},
		{"0001001000101110", []int{4, -4, 4, 4, 4, 4, 4, -4, 4, 4, 4, -4, -4, 4, -4, -4}, alone(4, 0, 16), 6, 0, "0100000100011011"},
	} {
		f, _ := impl.ParseTable(c.f)
		if got := impl.SpectrumOf(f); !slices.Equal(got, c.spectrum) {
			t.Errorf("SpectrumOf(%s) = %v, want %v", c.f, got, c.spectrum)
		}
		if got, ok := impl.TableOfSpectrum(c.spectrum); !ok || got != f {
			t.Errorf("TableOfSpectrum(%v) = %v, %v, want %v", c.spectrum, got, ok, f)
		}
		if got := impl.AutocorrelationOf(f); !slices.Equal(got, c.correlation) {
			t.Errorf("AutocorrelationOf(%s) = %v, want %v", c.f, got, c.correlation)
		}
		if impl.Nonlinearity(f) != c.far || impl.CorrelationImmunity(f) != c.immunity {
			t.Errorf("Nonlinearity(%s) = %d, want %d, CorrelationImmunity = %d, want %d", c.f, impl.Nonlinearity(f), c.far, impl.CorrelationImmunity(f), c.immunity)
		}
		if c.dual == "" {
			checkNotBent(t, f)
		} else if got := impl.FormatTable(dualOf(t, f)); got != c.dual || !impl.IsBent(f) {
			t.Errorf("DualOfBent(%s) = %s, want %s, IsBent = %v", c.f, got, c.dual, impl.IsBent(f))
		}
	}
}

// TestSpectraOfFiveVariables has the and of all of them, where the numbers are farthest apart, their majority, and whether two or three of them are 1.
func TestSpectraOfFiveVariables(t *testing.T) {
	for _, c := range []struct {
		f             impl.Table
		spectrum      []int
		far, immunity int
	}{
		{impl.Table{Bits: 5, Word: 1 << 31}, bySize(30, 2, -2, 2, -2, 2), 1, 0},
		{impl.Table{Bits: 5, Word: 1<<31 - 1}, bySize(-30, -2, 2, -2, 2, -2), 1, 0},
		{impl.Table{Bits: 5, Word: 1}, bySize(30, -2, -2, -2, -2, -2), 1, 0},
		{tableOf(5, func(bits []int) int { return sum(bits) / 3 }), bySize(0, 12, 0, -4, 0, 12), 10, 0},
		{tableOf(5, func(bits []int) int { return sum(bits) / 2 % 2 }), bySize(-8, 0, 8, 0, -8, 0), 12, 1},
	} {
		if got := impl.SpectrumOf(c.f); !slices.Equal(got, c.spectrum) {
			t.Errorf("SpectrumOf(%v) = %v, want %v", c.f, got, c.spectrum)
		}
		if got, ok := impl.TableOfSpectrum(c.spectrum); !ok || got != c.f {
			t.Errorf("TableOfSpectrum(%v) = %v, %v, want %v", c.spectrum, got, ok, c.f)
		}
		if impl.Nonlinearity(c.f) != c.far || impl.CorrelationImmunity(c.f) != c.immunity {
			t.Errorf("Nonlinearity(%v) = %d, want %d, CorrelationImmunity = %d, want %d", c.f, impl.Nonlinearity(c.f), c.far, impl.CorrelationImmunity(c.f), c.immunity)
		}
		checkNotBent(t, c.f)
	}
}

// TestSpectraOfSums has all sums of variables, no variables and all of them included, and their negations.
func TestSpectraOfSums(t *testing.T) {
	for n, sums := range sumsOfAll() {
		for set, l := range sums {
			for b := range 2 {
				f := tableOf(n, func(bits []int) int { return (l[inputOf(bits)] + b) % 2 })
				want := alone(n, set, (1<<n)*(1-2*b))
				if got := impl.SpectrumOf(f); !slices.Equal(got, want) {
					t.Fatalf("SpectrumOf(%v) = %v, want %v", f, got, want)
				}
				if got, ok := impl.TableOfSpectrum(want); !ok || got != f {
					t.Fatalf("TableOfSpectrum(%v) = %v, %v, want %v", want, got, ok, f)
				}
				// Each change of the input changes the value everywhere or nowhere.
				for s, number := range autocorrelationOf(t, f) {
					if number != (1<<n)*(1-2*l[s]) {
						t.Fatalf("AutocorrelationOf(%v) is %d at %d", f, number, s)
					}
				}
				immune := sizeOf(set) - 1
				if set == 0 {
					immune = n
				}
				if impl.Nonlinearity(f) != 0 || impl.CorrelationImmunity(f) != immune {
					t.Fatalf("Nonlinearity(%v) = %d, CorrelationImmunity = %d, want %d", f, impl.Nonlinearity(f), impl.CorrelationImmunity(f), immune)
				}
				checkNotBent(t, f)
			}
		}
	}
}

// TestSpectraOfNoVariables has both tables of one input, whose only number is 1 or -1.
func TestSpectraOfNoVariables(t *testing.T) {
	for v, number := range []int{1, -1} {
		f := impl.Table{Word: v}
		if got := impl.SpectrumOf(f); !slices.Equal(got, []int{number}) {
			t.Errorf("SpectrumOf(%v) = %v", f, got)
		}
		if got, ok := impl.TableOfSpectrum([]int{number}); !ok || got != f {
			t.Errorf("TableOfSpectrum of %d = %v, %v", number, got, ok)
		}
		if got := impl.AutocorrelationOf(f); !slices.Equal(got, []int{1}) {
			t.Errorf("AutocorrelationOf(%v) = %v", f, got)
		}
		if impl.Nonlinearity(f) != 0 || impl.CorrelationImmunity(f) != 0 {
			t.Errorf("Nonlinearity(%v) = %d, CorrelationImmunity = %d", f, impl.Nonlinearity(f), impl.CorrelationImmunity(f))
		}
		checkNotBent(t, f)
	}
}

// TestNonlinearityIsLeastDifference compares with all sums of variables and their negations.
func TestNonlinearityIsLeastDifference(t *testing.T) {
	sums := sumsOfAll()
	for _, f := range manyTables() {
		l := values(f)
		least := len(l)
		for _, other := range sums[f.Bits] {
			apart := differences(l, other)
			least = min(least, apart, len(l)-apart)
		}
		if got := impl.Nonlinearity(f); got != least {
			t.Fatalf("Nonlinearity(%v) = %d, want %d", f, got, least)
		}
	}
}

// TestIsBentFindsEqualMagnitudes counts the bent tables of two and of four variables; no table of other numbers of them is bent.
func TestIsBentFindsEqualMagnitudes(t *testing.T) {
	sums := sumsOfAll()
	count := make([]int, impl.MaxBits+1)
	for _, f := range manyTables() {
		m := magnitudes(counted(f, sums[f.Bits]))
		if slices.Min(m) != slices.Max(m) || f.Bits != 2 && f.Bits != 4 {
			checkNotBent(t, f)
			continue
		}
		count[f.Bits]++
		if !impl.IsBent(f) {
			t.Fatalf("IsBent(%v) is false, with the magnitudes %v", f, m)
		}
		dualOf(t, f)
	}
	if !slices.Equal(count, []int{0, 0, 8, 0, 896, 0}) {
		t.Errorf("%v tables are bent", count)
	}
}

func TestDualOfBentIsNegativeNumbers(t *testing.T) {
	sums := sumsOfAll()
	for _, n := range []int{2, 4} {
		for _, f := range allTables(n) {
			if !impl.IsBent(f) {
				continue
			}
			g := dualOf(t, f)
			for set, number := range counted(f, sums[n]) {
				if (values(g)[set] == 1) != (number < 0) {
					t.Fatalf("DualOfBent(%v) = %v, with %d for %d", f, g, number, set)
				}
			}
			if got := dualOf(t, g); !impl.IsBent(g) || got != f {
				t.Fatalf("DualOfBent(%v) = %v, and DualOfBent of it %v", f, g, got)
			}
		}
	}
}

// TestBentTablesAreFarthest has that of two and of four variables these are the tables with the greatest Nonlinearity, and those that each change of the input changes at half of the inputs.
func TestBentTablesAreFarthest(t *testing.T) {
	for n, greatest := range map[int]int{2: 1, 4: 6} {
		for _, f := range allTables(n) {
			bent := impl.IsBent(f)
			far := impl.Nonlinearity(f)
			if far > greatest || bent != (far == greatest) || bent != slices.Equal(impl.AutocorrelationOf(f), alone(n, 0, 1<<n)) {
				t.Fatalf("IsBent(%v) = %v, Nonlinearity = %d, AutocorrelationOf = %v", f, bent, far, impl.AutocorrelationOf(f))
			}
		}
	}
}

func TestAutocorrelationCountsInputs(t *testing.T) {
	for _, f := range append(sampleTables(), allTables(4)[:4096]...) {
		var others [][]int
		for s := range 1 << f.Bits {
			others = append(others, moved(f, s))
		}
		if got, want := autocorrelationOf(t, f), counted(f, others); !slices.Equal(got, want) {
			t.Fatalf("AutocorrelationOf(%v) = %v, want %v", f, got, want)
		}
	}
}

// TestAutocorrelationHasSquares has that the numbers, with the signs of each sum of variables, add up to the square of its number of the spectrum.
func TestAutocorrelationHasSquares(t *testing.T) {
	sums := sumsOfAll()
	for _, f := range manyTables() {
		c, r := spectrumOf(t, f), autocorrelationOf(t, f)
		for set, number := range c {
			total := 0
			for s, b := range sums[f.Bits][set] {
				total += r[s] * (1 - 2*b)
			}
			if total != number*number {
				t.Fatalf("AutocorrelationOf(%v) = %v, with %d for %d of SpectrumOf", f, r, number, set)
			}
		}
	}
}

func TestCorrelationImmunityIsOfSets(t *testing.T) {
	sums := sumsOfAll()
	for _, f := range manyTables() {
		if got, want := impl.CorrelationImmunity(f), immunity(f.Bits, counted(f, sums[f.Bits])); got != want {
			t.Fatalf("CorrelationImmunity(%v) = %d, want %d", f, got, want)
		}
	}
}

// isImmune reports whether each part of the inputs with the variables of a set of k fixed has as many ones as any other.
func isImmune(f impl.Table, k int) bool {
	l := values(f)
	for set := range l {
		if sizeOf(set) != k {
			continue
		}
		ones := make([]int, len(l))
		for x, v := range l {
			ones[x&set] += v
		}
		for part, count := range ones {
			if isPart(part, set) && count*(1<<k) != sum(l) {
				return false
			}
		}
	}
	return true
}

// TestCorrelationImmunityIsOfParts has that no so many variables tell anything of the value, but some set of one more does.
func TestCorrelationImmunityIsOfParts(t *testing.T) {
	for _, f := range append(sampleTables(), allTables(4)[:4096]...) {
		k := impl.CorrelationImmunity(f)
		if k < 0 || k > f.Bits || !isImmune(f, k) || k < f.Bits && isImmune(f, k+1) {
			t.Fatalf("CorrelationImmunity(%v) = %d", f, k)
		}
	}
}

// checkSame has that spectra differ in their order and signs only, so that what depends on magnitudes is equal.
func checkSame(t *testing.T, g, f impl.Table) {
	t.Helper()
	if impl.Nonlinearity(g) != impl.Nonlinearity(f) || impl.IsBent(g) != impl.IsBent(f) {
		t.Fatalf("Nonlinearity(%v) = %d, IsBent = %v, of %v %d, %v", g, impl.Nonlinearity(g), impl.IsBent(g), f, impl.Nonlinearity(f), impl.IsBent(f))
	}
}

func TestSpectraOfNegations(t *testing.T) {
	for _, f := range sampleTables() {
		g, _ := impl.NotTable(f)
		want := spectrumOf(t, f)
		for set := range want {
			want[set] = -want[set]
		}
		if got := spectrumOf(t, g); !slices.Equal(got, want) {
			t.Fatalf("SpectrumOf(%v) = %v, want %v", g, got, want)
		}
		if !slices.Equal(autocorrelationOf(t, g), autocorrelationOf(t, f)) || impl.CorrelationImmunity(g) != impl.CorrelationImmunity(f) {
			t.Fatalf("AutocorrelationOf(%v) = %v, CorrelationImmunity = %d", g, impl.AutocorrelationOf(g), impl.CorrelationImmunity(g))
		}
		checkSame(t, g, f)
	}
}

// TestSpectraOfShifts has that a shift only changes signs.
func TestSpectraOfShifts(t *testing.T) {
	sums := sumsOfAll()
	for n := range impl.MaxBits + 1 {
		for _, f := range tablesOf(n) {
			for x := range 1 << n {
				g := (tables{t}).shift(f, x)
				want := spectrumOf(t, f)
				for set := range want {
					want[set] *= 1 - 2*sums[n][set][x]
				}
				if got := spectrumOf(t, g); !slices.Equal(got, want) {
					t.Fatalf("SpectrumOf(%v) = %v, want %v", g, got, want)
				}
				if !slices.Equal(autocorrelationOf(t, g), autocorrelationOf(t, f)) || impl.CorrelationImmunity(g) != impl.CorrelationImmunity(f) {
					t.Fatalf("AutocorrelationOf(%v) = %v, CorrelationImmunity = %d", g, impl.AutocorrelationOf(g), impl.CorrelationImmunity(g))
				}
				checkSame(t, g, f)
			}
		}
	}
}

// TestSpectraWithSums adds a sum of variables, which shifts the spectrum.
func TestSpectraWithSums(t *testing.T) {
	_, _, _, xor := algebra(t)
	for n, sums := range sumsOfAll() {
		for _, f := range tablesOf(n) {
			c := spectrumOf(t, f)
			for s, l := range sums {
				g := xor(f, tableOf(n, func(bits []int) int { return l[inputOf(bits)] }))
				want := make([]int, len(c))
				for set := range want {
					want[set] = c[changed(n, set, s)]
				}
				if got := spectrumOf(t, g); !slices.Equal(got, want) {
					t.Fatalf("SpectrumOf(%v) = %v, want %v", g, got, want)
				}
				checkSame(t, g, f)
			}
		}
	}
}

func TestSpectraOfPermutations(t *testing.T) {
	for n := range 4 {
		for _, f := range allTables(n) {
			c, r := spectrumOf(t, f), autocorrelationOf(t, f)
			for _, p := range orders(n) {
				g := (tables{t}).permute(f, p)
				spectrum, correlation := make([]int, len(c)), make([]int, len(c))
				for set := range c {
					spectrum[permuted(set, p)] = c[set]
					correlation[permuted(set, p)] = r[set]
				}
				if !slices.Equal(spectrumOf(t, g), spectrum) || !slices.Equal(autocorrelationOf(t, g), correlation) {
					t.Fatalf("SpectrumOf(%v) = %v, want %v, AutocorrelationOf = %v, want %v", g, impl.SpectrumOf(g), spectrum, impl.AutocorrelationOf(g), correlation)
				}
				if impl.CorrelationImmunity(g) != impl.CorrelationImmunity(f) {
					t.Fatalf("CorrelationImmunity(%v) = %d, of %v %d", g, impl.CorrelationImmunity(g), f, impl.CorrelationImmunity(f))
				}
				checkSame(t, g, f)
			}
		}
	}
}

// TestSpectraOfJoinedTables has that sets without the new variable have the sums of the numbers of both tables, and those with it their differences.
func TestSpectraOfJoinedTables(t *testing.T) {
	for n := range impl.MaxBits {
		for _, p := range somePairs(n) {
			f, g := p.f, p.g
			c, d := spectrumOf(t, f), spectrumOf(t, g)
			for i := range n + 1 {
				h := (tables{t}).join(f, g, i)
				want := make([]int, 2<<n)
				for set := range c {
					want[withBit(n, set, i, 0)] = c[set] + d[set]
					want[withBit(n, set, i, 1)] = c[set] - d[set]
				}
				if got := spectrumOf(t, h); !slices.Equal(got, want) {
					t.Fatalf("SpectrumOf(%v) = %v, want %v", h, got, want)
				}
			}
		}
	}
}

// TestTableOfSpectrumOfAllLists counts as many lists with a table as there are tables with such numbers.
func TestTableOfSpectrumOfAllLists(t *testing.T) {
	for _, c := range []struct{ n, low, high, step, count int }{
		{0, -1002, 1002, 1, 2}, {1, -40, 40, 1, 4}, {2, -5, 5, 1, 16}, {3, -1, 1, 4, 112}, {3, -1, 1, 8, 16}, {3, -2, 1, 4, 128}, {4, -1, 0, 8, 896},
	} {
		sums, count := sumsOfVariables(c.n), 0
		for _, l := range listsOf(1<<c.n, c.low, c.high) {
			for k := range l {
				l[k] *= c.step
				// Where no number is 0, they stand on both sides of it.
				if c.low+c.high == -1 {
					l[k] += c.step / 2
				}
			}
			if checkSpectrum(t, c.n, l, sums) {
				count++
			}
		}
		if count != c.count {
			t.Errorf("%d lists of %d numbers have a table, want %d", count, 1<<c.n, c.count)
		}
	}
}

// TestTableOfSpectrumOfOtherNumbers changes spectra at one place, which leads to another table only if one number is all that is not 0, and at two.
func TestTableOfSpectrumOfOtherNumbers(t *testing.T) {
	sums := sumsOfAll()
	for _, f := range sampleTables() {
		c := spectrumOf(t, f)
		for set, number := range c {
			for _, other := range []int{-number, 0, number - 1, number + 1, number - 2, number + 2, number - 4, number + 4, number + 2*len(c), number - 2*len(c), len(c), -len(c), 1000 * number} {
				if other == number {
					continue
				}
				c[set] = other
				valid := checkSpectrum(t, f.Bits, c, sums[f.Bits])
				if valid != (number != 0 && other == -number && impl.Nonlinearity(f) == 0) {
					t.Fatalf("TableOfSpectrum(%v), of %v changed at %d, returns %v", c, f, set, valid)
				}
				last := len(c) - 1 - set
				c[last], c[set] = c[set], c[last]
				checkSpectrum(t, f.Bits, c, sums[f.Bits])
				c[last], c[set] = c[set], c[last]
			}
			c[set] = number
		}
	}
}

// TestTableOfSpectrumOfExchangedNumbers exchanges two numbers, so that the squares still add up.
func TestTableOfSpectrumOfExchangedNumbers(t *testing.T) {
	sums := sumsOfAll()
	for n := range impl.MaxBits + 1 {
		for _, f := range someTables(n) {
			c := spectrumOf(t, f)
			for a := range c {
				b := (5*a + 3) % len(c)
				c[a], c[b] = c[b], c[a]
				checkSpectrum(t, n, c, sums[n])
				c[a] = -c[a]
				checkSpectrum(t, n, c, sums[n])
				c[a] = -c[a]
				c[a], c[b] = c[b], c[a]
			}
		}
	}
}

// TestTableOfSpectrumOfOddNumbers has numbers that are odd, where with at least one variable all are even.
func TestTableOfSpectrumOfOddNumbers(t *testing.T) {
	for n := 1; n <= impl.MaxBits; n++ {
		for _, f := range tablesOf(n) {
			for _, d := range []int{-1, 1} {
				c := spectrumOf(t, f)
				for set := range c {
					c[set] += d
					checkNoSpectrum(t, c)
				}
			}
		}
	}
}

// farNumbers are as far from 0 as an int goes, and others beyond any spectrum.
func farNumbers() []int {
	return []int{math.MinInt, math.MinInt + 1, math.MinInt + 2, math.MinInt / 2, -1 << 33, -1 << 32, -1 << 31, -65536, -1024, -256, -64, -33, 33, 64, 256, 1024, 65536, 1 << 31, 1 << 32, 1 << 33, 1 << 62, math.MaxInt - 1, math.MaxInt}
}

// TestTableOfSpectrumRejectsFarNumbers replaces numbers by far ones, or adds them; this has a table only where it makes 32 and -32 of each other.
func TestTableOfSpectrumRejectsFarNumbers(t *testing.T) {
	for n, sums := range sumsOfAll() {
		for _, f := range someTables(n)[:8] {
			for set := range 1 << n {
				for _, k := range farNumbers() {
					c := spectrumOf(t, f)
					c[set] += k
					checkSpectrum(t, n, c, sums)
					c[set] = k
					checkNoSpectrum(t, c)
				}
			}
		}
		for _, k := range farNumbers() {
			checkNoSpectrum(t, slices.Repeat([]int{k}, 1<<n))
			checkNoSpectrum(t, alone(n, 0, k))
			checkNoSpectrum(t, alone(n, 1<<n-1, k))
		}
	}
}

// TestTableOfSpectrumRejectsOverflow has numbers whose sums are those of a table modulo 2 to the power of 63.
func TestTableOfSpectrumRejectsOverflow(t *testing.T) {
	for n := 1; n <= impl.MaxBits; n++ {
		l := someTables(n)
		for k, f := range l {
			for j, g := range l[:12] {
				c := spectrumOf(t, f)
				for set, number := range spectrumOf(t, g) {
					c[set] += number << (64 - n - j%2)
				}
				if !slices.Equal(c, spectrumOf(t, f)) {
					checkNoSpectrum(t, c)
				}
			}
			a, b := k%(1<<n), (k+1)%(1<<n)
			c := spectrumOf(t, f)
			c[a] += math.MinInt
			c[b] += math.MinInt
			checkNoSpectrum(t, c)
		}
	}
	for _, c := range [][]int{{math.MinInt, math.MinInt}, {math.MinInt + 2, math.MinInt}, {1 << 62, 1 << 62, 1 << 62, 1<<62 + 4}, {math.MinInt + 2, math.MinInt + 2, 2, -2}, {math.MaxInt, math.MaxInt}, {math.MaxInt, math.MinInt}} {
		checkNoSpectrum(t, c)
	}
}

// TestTableOfSpectrumRejectsLengths has lists that would be valid but for their length.
func TestTableOfSpectrumRejectsLengths(t *testing.T) {
	for length := range 140 {
		c := make([]int, length)
		if length > 0 {
			c[0] = length
		}
		valid := slices.Contains([]int{1, 2, 4, 8, 16, 32}, length)
		if f, ok := impl.TableOfSpectrum(c); ok != valid || !valid && f != (impl.Table{}) {
			t.Errorf("TableOfSpectrum(%v) = %v, %v", c, f, ok)
		}
	}
	for _, length := range []int{64, 128, 255, 256, 512, 1023, 1024, 1 << 16, 1 << 20} {
		c := make([]int, length)
		checkNoSpectrum(t, c)
		c[0] = length
		checkNoSpectrum(t, c)
		c[0] = -32
		checkNoSpectrum(t, c)
	}
	for _, f := range sampleTables() {
		c := spectrumOf(t, f)
		checkNoSpectrum(t, append(slices.Clone(c), slices.Repeat([]int{0}, 64-len(c))...))
		if len(c) > 2 {
			checkNoSpectrum(t, c[1:])
			checkNoSpectrum(t, c[:len(c)-1])
			checkNoSpectrum(t, append(c, 0))
		}
	}
	checkNoSpectrum(t, nil)
	checkNoSpectrum(t, []int{})
	checkNoSpectrum(t, make([]int, 0, 4))
}

// TestSpectrumIsNotModified looks at a list and its unused capacity, of which nothing is read.
func TestSpectrumIsNotModified(t *testing.T) {
	for _, f := range sampleTables() {
		for _, more := range [][]int{{}, {0}, {7, -7, 32}, slices.Repeat([]int{math.MinInt}, 32)} {
			c := spectrumOf(t, f)
			for _, spoil := range []int{0, 1, 2000} {
				memory := append(slices.Clone(c), more...)
				memory[len(c)-1] += spoil
				want := slices.Clone(memory)
				got, ok := impl.TableOfSpectrum(memory[:len(c)])
				if !slices.Equal(memory, want) {
					t.Fatalf("TableOfSpectrum changes %v to %v", want, memory)
				}
				if alone, also := impl.TableOfSpectrum(slices.Clip(slices.Clone(want[:len(c)]))); got != alone || ok != also || spoil == 0 && got != f {
					t.Fatalf("TableOfSpectrum(%v) = %v, %v, with more behind it %v, %v", want[:len(c)], alone, also, got, ok)
				}
			}
		}
	}
}

// checkNewLists overwrites each result, with its unused capacity, and compares the other ones.
func checkNewLists(t *testing.T, numbers func(*testing.T, impl.Table) []int) {
	t.Helper()
	for _, f := range sampleTables() {
		first := numbers(t, f)
		want := slices.Clone(first)
		second := numbers(t, f)
		first = first[:cap(first)]
		for k := range first {
			first[k] = 99
		}
		if third := numbers(t, f); !slices.Equal(second, want) || !slices.Equal(third, want) {
			t.Fatalf("the numbers of %v are %v and %v, want %v", f, second, third, want)
		}
	}
}

func TestSpectraAreNewLists(t *testing.T) {
	checkNewLists(t, spectrumOf)
	checkNewLists(t, autocorrelationOf)
}

// checkAtTheSameTime asks in several goroutines, in an order left to chance, whether the results for each table are those of a call alone.
func checkAtTheSameTime(t *testing.T, l []impl.Table, isSame func(k int) bool) {
	t.Helper()
	var callers sync.WaitGroup
	for seed := range 8 {
		callers.Go(func() {
			for _, k := range rand.New(rand.NewSource(int64(seed))).Perm(len(l)) {
				if !isSame(k) {
					t.Errorf("the results for %v are others at the same time", l[k])
				}
			}
		})
	}
	callers.Wait()
}

func TestSpectraAtTheSameTime(t *testing.T) {
	l := append(someTables(4), someTables(5)...)
	spectra, correlations := make([][]int, len(l)), make([][]int, len(l))
	for k, f := range l {
		spectra[k], correlations[k] = spectrumOf(t, f), autocorrelationOf(t, f)
	}
	checkAtTheSameTime(t, l, func(k int) bool {
		got, ok := impl.TableOfSpectrum(spectra[k])
		return ok && got == l[k] && slices.Equal(impl.SpectrumOf(l[k]), spectra[k]) && slices.Equal(impl.AutocorrelationOf(l[k]), correlations[k])
	})
}

func TestSpectraRejectTables(t *testing.T) {
	for _, f := range notTables() {
		if c := impl.SpectrumOf(f); len(c) != 0 {
			t.Errorf("SpectrumOf(%v) = %v", f, c)
		}
		if c := impl.AutocorrelationOf(f); len(c) != 0 {
			t.Errorf("AutocorrelationOf(%v) = %v", f, c)
		}
		if impl.Nonlinearity(f) != -1 || impl.CorrelationImmunity(f) != -1 {
			t.Errorf("Nonlinearity(%v) = %d, CorrelationImmunity = %d", f, impl.Nonlinearity(f), impl.CorrelationImmunity(f))
		}
		checkNotBent(t, f)
	}
}
