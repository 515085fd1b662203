package tests

import (
	"math"
	"slices"
	"strings"
	"testing"

	"loop.example/g03403/impl"
)

// affineTables returns the tables of the sums of n variables, by sets and then by constants.
func affineTables(n int) []impl.Table {
	var l []impl.Table
	for _, values := range sumsOfVariables(n) {
		for b := range 2 {
			l = append(l, tableOf(n, func(bits []int) int { return (values[inputOf(bits)] + b) % 2 }))
		}
	}
	return l
}

// nearAffine returns tables that differ from a sum of n variables at none, one or two inputs.
func nearAffine(n int) []impl.Table {
	var l []impl.Table
	for _, f := range affineTables(n) {
		l = append(l, f)
		for x := range 1 << n {
			one := values(f)
			one[x] = 1 - one[x]
			l = append(l, impl.Table{Bits: n, Word: inputOf(one)})
			two := slices.Clone(one)
			y := (x*x + 1) % (1 << n)
			two[y] = 1 - two[y]
			l = append(l, impl.Table{Bits: n, Word: inputOf(two)})
		}
	}
	return l
}

// linearTables returns all tables of at most four variables, and of five those near to sums and some others.
func linearTables() []impl.Table {
	return append(manyTables(), nearAffine(5)...)
}

// onesIn returns how many variables of the set are 1 at the input x of n variables.
func onesIn(n, set, x int) int {
	total := 0
	for i, b := range bitsOf(n, x) {
		total += b * bitsOf(n, set)[i]
	}
	return total
}

// tablesOfFew returns tables of five variables that depend on some of them only: each set of variables, in a sum, in an or, and in an and.
func tablesOfFew() []impl.Table {
	var l []impl.Table
	for set := range 1 << 5 {
		for _, value := range []func(ones int) int{
			func(ones int) int { return ones % 2 },
			func(ones int) int { return min(ones, 1) },
			func(ones int) int { return ones / max(sizeOf(set), 1) },
		} {
			l = append(l, tableOf(5, func(bits []int) int { return value(onesIn(5, set, inputOf(bits))) }))
		}
	}
	return l
}

// exclusiveOrs returns for each two inputs of n variables the one with those variables that only one of them has.
func exclusiveOrs(n int) [][]int {
	l := make([][]int, 1<<n)
	for x := range l {
		for y := range 1 << n {
			l[x] = append(l[x], changed(n, x, y))
		}
	}
	return l
}

// oddPairs counts the pairs of inputs, each in both orders, whose values and that at their exclusive or have an odd sum.
func oddPairs(f impl.Table, ors [][]int) int {
	l := values(f)
	count := 0
	for x, row := range ors {
		for y, z := range row {
			count += (l[x] + l[y] + l[z]) % 2
		}
	}
	return count
}

// constantChanges returns the sets whose change changes the value at all inputs or at none, in ascending order.
func constantChanges(f impl.Table, ors [][]int) []int {
	l := values(f)
	var sets []int
	for s := range l {
		changes := 0
		for x := range l {
			changes += (l[x] + l[ors[x][s]]) % 2
		}
		if changes%len(l) == 0 {
			sets = append(sets, s)
		}
	}
	return sets
}

func affineTable(t *testing.T, n, u, b int) impl.Table {
	t.Helper()
	f, ok := impl.AffineTable(n, u, b)
	return tables{t}.checked(f, ok, n, "AffineTable", n, u, b)
}

// nearestAffine returns the set, the constant and the distance.
func nearestAffine(t *testing.T, f impl.Table) [3]int {
	t.Helper()
	u, b, distance, ok := impl.NearestAffine(f)
	if !ok {
		t.Fatalf("NearestAffine(%v) = %d, %d, %d, false", f, u, b, distance)
	}
	return [3]int{u, b, distance}
}

func linearStructures(t *testing.T, f impl.Table) []int {
	t.Helper()
	l, ok := impl.LinearStructures(f)
	if !ok {
		t.Fatalf("LinearStructures(%v) = %v, false", f, l)
	}
	return l
}

// inputsOf returns all inputs of n variables.
func inputsOf(n int) []int {
	var l []int
	for x := range 1 << n {
		l = append(l, x)
	}
	return l
}

func TestAffineTableIsSum(t *testing.T) {
	for n := range impl.MaxBits + 1 {
		want := affineTables(n)
		seen := map[impl.Table]bool{}
		for u := range 1 << n {
			for b := range 2 {
				f := affineTable(t, n, u, b)
				if f != want[2*u+b] {
					t.Fatalf("AffineTable(%d, %d, %d) = %v, want %v", n, u, b, f, want[2*u+b])
				}
				seen[f] = true
			}
		}
		if len(seen) != 2<<n {
			t.Errorf("there are %d tables AffineTable(%d, ..)", len(seen), n)
		}
	}
}

// TestAffineTableAddsVariables adds the tables of the variables one by one to the constant.
func TestAffineTableAddsVariables(t *testing.T) {
	_, _, _, xor := algebra(t)
	for n := range impl.MaxBits + 1 {
		for u := range 1 << n {
			for b := range 2 {
				want := tableOf(n, func([]int) int { return b })
				var terms []string
				for i, in := range bitsOf(n, u) {
					if in == 1 {
						f, _ := impl.VariableTable(n, i)
						want = xor(want, f)
						terms = append(terms, string(rune('a'+i)))
					}
				}
				f := affineTable(t, n, u, b)
				if f != want {
					t.Fatalf("AffineTable(%d, %d, %d) = %v, want %v", n, u, b, f, want)
				}
				if b == 1 {
					terms = slices.Insert(terms, 0, "1")
				}
				if s := strings.Join(terms, "+"); s != "" && impl.FormatAnf(f) != s {
					t.Fatalf("FormatAnf(%v) = %q, want %q", f, impl.FormatAnf(f), s)
				}
			}
		}
	}
}

// TestIsAffineExactlyForSums has the tables that AffineTable makes, and all others.
func TestIsAffineExactlyForSums(t *testing.T) {
	sums := map[impl.Table]bool{}
	for n := range impl.MaxBits + 1 {
		for u := range 1 << n {
			for b := range 2 {
				sums[affineTable(t, n, u, b)] = true
			}
		}
	}
	affine := map[impl.Table]bool{}
	for _, f := range linearTables() {
		got := impl.IsAffine(f)
		if got != sums[f] || got != (impl.DegreeMod2(f) <= 1) {
			t.Fatalf("IsAffine(%v) = %v", f, got)
		}
		if got {
			affine[f] = true
		}
	}
	if len(affine) != 2+4+8+16+32+64 {
		t.Errorf("IsAffine holds for %d tables", len(affine))
	}
}

func TestTestRejectsCountsPairs(t *testing.T) {
	ors := ofAll(exclusiveOrs)
	for _, f := range linearTables() {
		if got, want := impl.TestRejects(f), oddPairs(f, ors[f.Bits]); got != want {
			t.Fatalf("TestRejects(%v) = %d, want %d", f, got, want)
		}
	}
}

// TestTablesNeverRejectedAreSums has promise 12: no pair is rejected exactly for the sums of variables without a constant.
func TestTablesNeverRejectedAreSums(t *testing.T) {
	never, always := 0, 0
	for _, f := range linearTables() {
		got := impl.TestRejects(f)
		affine := impl.IsAffine(f)
		first := impl.ValueAt(f, 0)
		if (got == 0) != (affine && first == 0) {
			t.Fatalf("TestRejects(%v) = %d, IsAffine = %v, ValueAt 0 = %d", f, got, affine, first)
		}
		if (got == 1<<(2*f.Bits)) != (affine && first == 1) {
			t.Fatalf("TestRejects(%v) = %d, IsAffine = %v, ValueAt 0 = %d", f, got, affine, first)
		}
		if got == 0 {
			u, b, distance, ok := impl.NearestAffine(f)
			if sum, made := impl.AffineTable(f.Bits, u, 0); !ok || b != 0 || distance != 0 || !made || sum != f {
				t.Fatalf("TestRejects(%v) = 0, NearestAffine = %d, %d, %d, %v", f, u, b, distance, ok)
			}
			never++
		} else if got == 1<<(2*f.Bits) {
			always++
		}
	}
	if never < 63 || always < 63 {
		t.Errorf("the test rejects no pair of %d tables, and all pairs of %d", never, always)
	}
}

// TestTestRejectsOfNegations has that each pair is rejected for a table or its negation.
func TestTestRejectsOfNegations(t *testing.T) {
	for _, f := range linearTables() {
		g, _ := impl.NotTable(f)
		if a, b := impl.TestRejects(f), impl.TestRejects(g); a+b != 1<<(2*f.Bits) {
			t.Fatalf("TestRejects(%v) = %d, TestRejects(%v) = %d", f, a, g, b)
		}
	}
}

// TestTestRejectsIsOfSpectrum has the cubes of the spectrum.
func TestTestRejectsIsOfSpectrum(t *testing.T) {
	for _, f := range linearTables() {
		cubes := 0
		for _, c := range spectrumOf(t, f) {
			cubes += c * c * c
		}
		if got := impl.TestRejects(f); cubes != (1<<(2*f.Bits)-2*got)*(1<<f.Bits) {
			t.Fatalf("TestRejects(%v) = %d, SpectrumOf = %v", f, got, impl.SpectrumOf(f))
		}
	}
}

// TestNearestAffineIsFirstLeast compares with the distance to each AffineTable, by sets and then by constants.
func TestNearestAffineIsFirstLeast(t *testing.T) {
	var sums [impl.MaxBits + 1][]impl.Table
	for n := range sums {
		for u := range 1 << n {
			sums[n] = append(sums[n], affineTable(t, n, u, 0), affineTable(t, n, u, 1))
		}
	}
	// Ties after a first set that is not empty, and those of a first one with the constant 1 and a later one with 0.
	ties, constants := 0, 0
	for _, f := range linearTables() {
		var distances []int
		for _, g := range sums[f.Bits] {
			distances = append(distances, impl.DistanceBetween(f, g))
		}
		least := slices.Min(distances)
		first := slices.Index(distances, least)
		if got, want := nearestAffine(t, f), [3]int{first / 2, first % 2, least}; got != want {
			t.Fatalf("NearestAffine(%v) = %v, want %v", f, got, want)
		}
		for k := first + 1; k < len(distances); k++ {
			if distances[k] == least && first > 1 {
				ties++
			}
			if distances[k] == least && first%2 == 1 && k%2 == 0 {
				constants++
			}
		}
	}
	if ties == 0 || constants == 0 {
		t.Errorf("there are %d ties, and %d with a lesser constant later", ties, constants)
	}
}

// TestNearestAffineIsOfSpectrum has the first of the greatest magnitudes, and its sign.
func TestNearestAffineIsOfSpectrum(t *testing.T) {
	for _, f := range linearTables() {
		c := spectrumOf(t, f)
		u := firstGreatest(magnitudes(c))
		b := 0
		if c[u] < 0 {
			b = 1
		}
		if got, want := nearestAffine(t, f), [3]int{u, b, impl.Nonlinearity(f)}; got != want {
			t.Fatalf("NearestAffine(%v) = %v, want %v", f, got, want)
		}
	}
}

// TestNearestAffineOfSums has the sums themselves, and those of three variables and more with one value changed, which are still the nearest ones.
func TestNearestAffineOfSums(t *testing.T) {
	for n := range impl.MaxBits + 1 {
		for u := range 1 << n {
			for b := range 2 {
				f := affineTable(t, n, u, b)
				if got := nearestAffine(t, f); got != [3]int{u, b, 0} || !impl.IsAffine(f) {
					t.Fatalf("NearestAffine(%v) = %v, want %d, %d, 0", f, got, u, b)
				}
				for x := range 1 << n {
					l := values(f)
					l[x] = 1 - l[x]
					g := impl.Table{Bits: n, Word: inputOf(l)}
					if got := nearestAffine(t, g); n > 2 && got != [3]int{u, b, 1} {
						t.Fatalf("NearestAffine(%v) = %v, want %d, %d, 1", g, got, u, b)
					}
					if impl.IsAffine(g) != (n < 2) {
						t.Fatalf("IsAffine(%v) = %v", g, impl.IsAffine(g))
					}
				}
			}
		}
	}
}

func TestDistanceBetweenCountsInputs(t *testing.T) {
	for n := range impl.MaxBits + 1 {
		l := tablesOf(n)
		for _, f := range l {
			for _, g := range l {
				got := impl.DistanceBetween(f, g)
				if want := differences(values(f), values(g)); got != want || (got == 0) != (f == g) {
					t.Fatalf("DistanceBetween(%v, %v) = %d, want %d", f, g, got, want)
				}
				if back := impl.DistanceBetween(g, f); back != got {
					t.Fatalf("DistanceBetween(%v, %v) = %d, back %d", f, g, got, back)
				}
			}
		}
	}
}

// TestDistanceBetweenAddsUp has the exclusive or, the negation and the way over a third table.
func TestDistanceBetweenAddsUp(t *testing.T) {
	not, _, _, xor := algebra(t)
	for n := range impl.MaxBits + 1 {
		l := tablesOf(n)
		for k, p := range somePairs(n) {
			f, g, h := p.f, p.g, l[(k*k+1)%len(l)]
			apart := impl.DistanceBetween(f, g)
			if apart != impl.CountOnes(xor(f, g)) || apart+impl.DistanceBetween(f, not(g)) != 1<<n {
				t.Fatalf("DistanceBetween(%v, %v) = %d, to the negation %d", f, g, apart, impl.DistanceBetween(f, not(g)))
			}
			if over := impl.DistanceBetween(f, h) + impl.DistanceBetween(h, g); over < apart || (over-apart)%2 != 0 {
				t.Fatalf("DistanceBetween(%v, %v) = %d, over %v %d", f, g, apart, h, over)
			}
			if moved := impl.DistanceBetween(xor(f, h), xor(g, h)); moved != apart {
				t.Fatalf("DistanceBetween(%v, %v) = %d, with %v added %d", f, g, apart, h, moved)
			}
		}
	}
}

// TestIsJuntaCountsVariables has each k from below 0 to above the number of variables.
func TestIsJuntaCountsVariables(t *testing.T) {
	for _, f := range append(linearTables(), tablesOfFew()...) {
		needed := len(impl.VariablesOf(f))
		if needed != len(mattering(f)) {
			t.Fatalf("VariablesOf(%v) = %v", f, impl.VariablesOf(f))
		}
		for k := -3; k <= impl.MaxBits+3; k++ {
			if got, want := impl.IsJunta(f, k), k >= 0 && k >= needed; got != want {
				t.Fatalf("IsJunta(%v, %d) = %v, VariablesOf = %v", f, k, got, impl.VariablesOf(f))
			}
		}
	}
}

// TestIsJuntaOfFewVariables has numbers of variables that are known without VariablesOf.
func TestIsJuntaOfFewVariables(t *testing.T) {
	for k, f := range tablesOfFew() {
		needed := sizeOf(k / 3)
		if impl.IsJunta(f, needed-1) || !impl.IsJunta(f, needed) || !impl.IsJunta(f, needed+1) {
			t.Errorf("IsJunta(%v, %d) and around = %v, %v, %v", f, needed, impl.IsJunta(f, needed-1), impl.IsJunta(f, needed), impl.IsJunta(f, needed+1))
		}
	}
}

// TestIsJuntaAtFarNumbers has that those below 0 are too few for any table, and those above the variables enough.
func TestIsJuntaAtFarNumbers(t *testing.T) {
	for _, f := range sampleTables() {
		for _, k := range append(farNumbers(), outOfRange...) {
			if got := impl.IsJunta(f, k); got != (k > 0) {
				t.Fatalf("IsJunta(%v, %d) = %v", f, k, got)
			}
		}
		for k := -130; k < 0; k++ {
			if impl.IsJunta(f, k) || !impl.IsJunta(f, impl.MaxBits-1-k) {
				t.Fatalf("IsJunta(%v, %d) = %v, at %d %v", f, k, impl.IsJunta(f, k), impl.MaxBits-1-k, impl.IsJunta(f, impl.MaxBits-1-k))
			}
		}
	}
}

// TestLinearStructuresAreOfAutocorrelation goes through all inputs in ascending order.
func TestLinearStructuresAreOfAutocorrelation(t *testing.T) {
	both := 0
	for _, f := range linearTables() {
		var want []int
		signs := map[int]bool{}
		for s, number := range autocorrelationOf(t, f) {
			if number == 1<<f.Bits || number == -(1<<f.Bits) {
				want = append(want, s)
				signs[number] = true
			}
		}
		if got := linearStructures(t, f); !slices.Equal(got, want) {
			t.Fatalf("LinearStructures(%v) = %v, want %v", f, got, want)
		}
		both += len(signs) - 1
	}
	if both == 0 {
		t.Error("no table has numbers of both signs")
	}
}

func TestLinearStructuresChangeAllOrNothing(t *testing.T) {
	ors := ofAll(exclusiveOrs)
	for _, f := range append(linearTables(), tablesOfFew()...) {
		if got, want := linearStructures(t, f), constantChanges(f, ors[f.Bits]); !slices.Equal(got, want) {
			t.Fatalf("LinearStructures(%v) = %v, want %v", f, got, want)
		}
	}
}

// TestLinearStructuresAreClosed has that the exclusive or of two of them is one of them, and that all inputs are exactly for the sums.
func TestLinearStructuresAreClosed(t *testing.T) {
	for _, f := range append(sampleTables(), nearAffine(5)...) {
		l := linearStructures(t, f)
		if len(l) == 0 || l[0] != 0 || (1<<f.Bits)%len(l) != 0 || (len(l) == 1<<f.Bits) != impl.IsAffine(f) {
			t.Fatalf("LinearStructures(%v) = %v, IsAffine = %v", f, l, impl.IsAffine(f))
		}
		for _, a := range l {
			for _, b := range l {
				if !slices.Contains(l, changed(f.Bits, a, b)) {
					t.Fatalf("LinearStructures(%v) = %v has %d and %d alone", f, l, a, b)
				}
			}
		}
	}
}

// TestAffineFunctionsOfTables has fixed numbers.
func TestAffineFunctionsOfTables(t *testing.T) {
	for _, c := range []struct {
		f          string
		nearest    [3]int
		rejects    int
		structures []int
	}{
		{"0", [3]int{0, 0, 0}, 0, []int{0}},
		{"1", [3]int{0, 1, 0}, 1, []int{0}},
		{"00", [3]int{0, 0, 0}, 0, []int{0, 1}},
		{"11", [3]int{0, 1, 0}, 4, []int{0, 1}},
		{"01", [3]int{1, 0, 0}, 0, []int{0, 1}},
		{"10", [3]int{1, 1, 0}, 4, []int{0, 1}},
		{"0101", [3]int{1, 0, 0}, 0, []int{0, 1, 2, 3}},
		{"1100", [3]int{2, 1, 0}, 16, []int{0, 1, 2, 3}},
		{"0110", [3]int{3, 0, 0}, 0, []int{0, 1, 2, 3}},
		{"1001", [3]int{3, 1, 0}, 16, []int{0, 1, 2, 3}},
		{"0001", [3]int{0, 0, 1}, 6, []int{0}},
		{"0100", [3]int{0, 0, 1}, 6, []int{0}},
		{"1000", [3]int{0, 0, 1}, 10, []int{0}},
		// Three sums are as near as the constant 1, two of them with the constant 0.
		{"0111", [3]int{0, 1, 1}, 6, []int{0}},
		{"1110", [3]int{0, 1, 1}, 10, []int{0}},
		{"00000001", [3]int{0, 0, 1}, 18, []int{0}},
		{"10000000", [3]int{0, 0, 1}, 22, []int{0}},
		// The majority has a tie of all variables and of their sum.
		{"00010111", [3]int{1, 0, 2}, 24, []int{0, 7}},
		{"01111110", [3]int{0, 1, 2}, 24, []int{0, 7}},
		// Variable 0 chooses one of the others.
		{"00100111", [3]int{2, 0, 2}, 24, []int{0, 6}},
		// The product of two variables and the third one, and its negation.
		{"00011110", [3]int{4, 0, 2}, 24, []int{0, 4}},
		{"11100001", [3]int{4, 1, 2}, 40, []int{0, 4}},
		// The product of two variables, without the third one.
		{"00010001", [3]int{0, 0, 2}, 24, []int{0, 4}},
		{"00000011", [3]int{0, 0, 2}, 24, []int{0, 1}},
		{"01101001", [3]int{7, 0, 0}, 0, []int{0, 1, 2, 3, 4, 5, 6, 7}},
		// The sum of two products.
		{"0001000100011110", [3]int{0, 0, 6}, 120, []int{0}},
	} {
		f, _ := impl.ParseTable(c.f)
		if got := nearestAffine(t, f); got != c.nearest || impl.IsAffine(f) != (c.nearest[2] == 0) {
			t.Errorf("NearestAffine(%s) = %v, want %v, IsAffine = %v", c.f, got, c.nearest, impl.IsAffine(f))
		}
		if got := impl.TestRejects(f); got != c.rejects {
			t.Errorf("TestRejects(%s) = %d, want %d", c.f, got, c.rejects)
		}
		if got := linearStructures(t, f); !slices.Equal(got, c.structures) {
			t.Errorf("LinearStructures(%s) = %v, want %v", c.f, got, c.structures)
		}
	}
}

// TestAffineFunctionsOfFiveVariables has the sum of all of them, their and, the negation of their or, their majority, two products and the last one, and the last one together with any other one.
func TestAffineFunctionsOfFiveVariables(t *testing.T) {
	for _, c := range []struct {
		value      func(bits []int) int
		nearest    [3]int
		rejects    int
		structures []int
	}{
		{func(bits []int) int { return sum(bits) % 2 }, [3]int{31, 0, 0}, 0, inputsOf(5)},
		{func(bits []int) int { return (sum(bits) + 1) % 2 }, [3]int{31, 1, 0}, 1024, inputsOf(5)},
		{func(bits []int) int { return slices.Min(bits) }, [3]int{0, 0, 1}, 90, []int{0}},
		{func(bits []int) int { return 1 - slices.Max(bits) }, [3]int{0, 0, 1}, 94, []int{0}},
		{func(bits []int) int { return sum(bits) / 3 }, [3]int{1, 0, 10}, 360, []int{0, 31}},
		{func(bits []int) int { return (bits[0]*bits[1] + bits[2]*bits[3] + bits[4]) % 2 }, [3]int{16, 0, 12}, 480, []int{0, 16}},
		{func(bits []int) int { return bits[4] * slices.Max(bits[:4]) }, [3]int{16, 0, 1}, 90, []int{0}},
	} {
		f := tableOf(5, c.value)
		if got := nearestAffine(t, f); got != c.nearest || impl.IsAffine(f) != (c.nearest[2] == 0) {
			t.Errorf("NearestAffine(%v) = %v, want %v, IsAffine = %v", f, got, c.nearest, impl.IsAffine(f))
		}
		if got := impl.TestRejects(f); got != c.rejects {
			t.Errorf("TestRejects(%v) = %d, want %d", f, got, c.rejects)
		}
		if got := linearStructures(t, f); !slices.Equal(got, c.structures) {
			t.Errorf("LinearStructures(%v) = %v, want %v", f, got, c.structures)
		}
	}
}

// TestAffineFunctionsOfConstants has both constants of none to five variables.
func TestAffineFunctionsOfConstants(t *testing.T) {
	for n := range impl.MaxBits + 1 {
		for b, word := range []int{0, 1<<(1<<n) - 1} {
			f := impl.Table{Bits: n, Word: word}
			if !impl.IsAffine(f) || affineTable(t, n, 0, b) != f {
				t.Errorf("IsAffine(%v) = %v, AffineTable(%d, 0, %d) = %v", f, impl.IsAffine(f), n, b, affineTable(t, n, 0, b))
			}
			if got := nearestAffine(t, f); got != [3]int{0, b, 0} {
				t.Errorf("NearestAffine(%v) = %v", f, got)
			}
			if got := impl.TestRejects(f); got != b*(1<<(2*n)) {
				t.Errorf("TestRejects(%v) = %d", f, got)
			}
			for k := range n + 3 {
				if !impl.IsJunta(f, k) || impl.IsJunta(f, -1-k) {
					t.Errorf("IsJunta(%v, %d) = %v, at %d %v", f, k, impl.IsJunta(f, k), -1-k, impl.IsJunta(f, -1-k))
				}
			}
			if got := linearStructures(t, f); !slices.Equal(got, inputsOf(n)) {
				t.Errorf("LinearStructures(%v) = %v", f, got)
			}
			if got := impl.DistanceBetween(f, impl.Table{Bits: n}); got != b*(1<<n) {
				t.Errorf("DistanceBetween(%v, 0) = %d", f, got)
			}
		}
	}
}

// TestNearestAffineOfShifts has that a shift adds at most a constant to each sum.
func TestNearestAffineOfShifts(t *testing.T) {
	for _, f := range append(sampleTables(), nearAffine(5)[:300]...) {
		want := nearestAffine(t, f)
		structures := linearStructures(t, f)
		for x := range 1 << f.Bits {
			g := (tables{t}).shift(f, x)
			constant := (want[1] + onesIn(f.Bits, want[0], x)) % 2
			if got := nearestAffine(t, g); got != [3]int{want[0], constant, want[2]} {
				t.Fatalf("NearestAffine(%v) = %v, that of %v %v", g, got, f, want)
			}
			if got := linearStructures(t, g); !slices.Equal(got, structures) || impl.IsAffine(g) != impl.IsAffine(f) {
				t.Fatalf("LinearStructures(%v) = %v, of %v %v", g, got, f, structures)
			}
		}
	}
}

// TestAffineFunctionsOfAddedSums adds each sum of variables, which changes no structure and no least distance.
func TestAffineFunctionsOfAddedSums(t *testing.T) {
	_, _, _, xor := algebra(t)
	for n := range impl.MaxBits + 1 {
		sums := affineTables(n)
		for _, f := range tablesOf(n) {
			structures, least := linearStructures(t, f), nearestAffine(t, f)[2]
			for k, sum := range sums {
				g := xor(f, sum)
				if got := linearStructures(t, g); !slices.Equal(got, structures) || nearestAffine(t, g)[2] != least || impl.IsAffine(g) != impl.IsAffine(f) {
					t.Fatalf("LinearStructures(%v) = %v, NearestAffine = %v, of %v %v, %d", g, got, nearestAffine(t, g), f, structures, least)
				}
				if k%2 == 0 && impl.TestRejects(g) != impl.TestRejects(f) {
					t.Fatalf("TestRejects(%v) = %d, TestRejects(%v) = %d", g, impl.TestRejects(g), f, impl.TestRejects(f))
				}
			}
		}
	}
}

func TestAffineFunctionsOfPermutations(t *testing.T) {
	for n := range impl.MaxBits + 1 {
		l := tablesOf(n)
		if n == impl.MaxBits {
			l = l[:12]
		}
		for _, f := range l {
			structures := linearStructures(t, f)
			for _, p := range orders(n) {
				g := (tables{t}).permute(f, p)
				var want []int
				for _, s := range structures {
					want = append(want, permuted(s, p))
				}
				slices.Sort(want)
				if got := linearStructures(t, g); !slices.Equal(got, want) {
					t.Fatalf("LinearStructures(%v) = %v, want %v", g, got, want)
				}
				if impl.IsAffine(g) != impl.IsAffine(f) || impl.TestRejects(g) != impl.TestRejects(f) || nearestAffine(t, g)[2] != nearestAffine(t, f)[2] {
					t.Fatalf("IsAffine(%v) = %v, TestRejects = %d, NearestAffine = %v, of %v", g, impl.IsAffine(g), impl.TestRejects(g), nearestAffine(t, g), f)
				}
				for k := range n + 1 {
					if impl.IsJunta(g, k) != impl.IsJunta(f, k) {
						t.Fatalf("IsJunta(%v, %d) = %v, of %v %v", g, k, impl.IsJunta(g, k), f, impl.IsJunta(f, k))
					}
				}
			}
		}
	}
}

// TestAffineFunctionsOfUselessVariables adds a variable that does not matter at each place.
func TestAffineFunctionsOfUselessVariables(t *testing.T) {
	for n := range impl.MaxBits {
		for _, f := range tablesOf(n) {
			nearest, structures := nearestAffine(t, f), linearStructures(t, f)
			for i := range n + 1 {
				g := (tables{t}).join(f, f, i)
				if got, want := nearestAffine(t, g), [3]int{withBit(n, nearest[0], i, 0), nearest[1], 2 * nearest[2]}; got != want {
					t.Fatalf("NearestAffine(%v) = %v, want %v", g, got, want)
				}
				var want []int
				for _, s := range structures {
					want = append(want, withBit(n, s, i, 0), withBit(n, s, i, 1))
				}
				slices.Sort(want)
				if got := linearStructures(t, g); !slices.Equal(got, want) {
					t.Fatalf("LinearStructures(%v) = %v, want %v", g, got, want)
				}
				if impl.TestRejects(g) != 4*impl.TestRejects(f) || impl.IsAffine(g) != impl.IsAffine(f) {
					t.Fatalf("TestRejects(%v) = %d, IsAffine = %v, of %v", g, impl.TestRejects(g), impl.IsAffine(g), f)
				}
				for k := range n + 3 {
					if impl.IsJunta(g, k) != impl.IsJunta(f, k) {
						t.Fatalf("IsJunta(%v, %d) = %v, of %v %v", g, k, impl.IsJunta(g, k), f, impl.IsJunta(f, k))
					}
				}
			}
		}
	}
}

func TestLinearStructuresAreNewLists(t *testing.T) {
	checkNewLists(t, linearStructures)
}

func TestAffineFunctionsAtTheSameTime(t *testing.T) {
	l := append(someTables(4), nearAffine(5)[:200]...)
	nearest, structures, rejects := make([][3]int, len(l)), make([][]int, len(l)), make([]int, len(l))
	for k, f := range l {
		nearest[k], structures[k], rejects[k] = nearestAffine(t, f), linearStructures(t, f), impl.TestRejects(f)
	}
	checkAtTheSameTime(t, l, func(k int) bool {
		u, b, distance, _ := impl.NearestAffine(l[k])
		got, _ := impl.LinearStructures(l[k])
		return [3]int{u, b, distance} == nearest[k] && slices.Equal(got, structures[k]) && impl.TestRejects(l[k]) == rejects[k]
	})
}

func checkNoAffine(t *testing.T, n, u, b int) {
	t.Helper()
	if f, ok := impl.AffineTable(n, u, b); ok || f != (impl.Table{}) {
		t.Fatalf("AffineTable(%d, %d, %d) = %v, %v", n, u, b, f, ok)
	}
}

// TestAffineTableRejectsBits has numbers of variables out of range, with sets and constants that would be valid for others, or not.
func TestAffineTableRejectsBits(t *testing.T) {
	wrong := append(farNumbers(), impl.MaxBits+1, impl.MaxBits+2, -1, -2, -5, 31, 32, 62, 63, 65, 127, 128)
	for _, n := range wrong {
		for _, u := range append(slices.Clone(outOfRange), 0, 1, 2, 3, 7, 31, n, -n) {
			for _, b := range []int{0, 1, -1, 2, n} {
				checkNoAffine(t, n, u, b)
			}
		}
	}
}

// TestAffineTableRejectsSets has sets below 0 and with a bit that is no variable, alone or with others.
func TestAffineTableRejectsSets(t *testing.T) {
	for n := range impl.MaxBits + 1 {
		wrong := append(slices.Clone(outOfRange), 1<<n, 1<<n+1, 2<<n-1, 2<<n, -1<<n, math.MinInt+1<<n, math.MinInt+1<<n-1, math.MaxInt-1<<n)
		for i := n; i < 64; i++ {
			for u := range 1 << n {
				wrong = append(wrong, u+1<<i, u-1<<i)
			}
		}
		for _, u := range wrong {
			for _, b := range []int{0, 1, -1, 2} {
				checkNoAffine(t, n, u, b)
			}
		}
	}
}

// TestAffineTableRejectsConstants has those that are neither 0 nor 1, odd and even ones.
func TestAffineTableRejectsConstants(t *testing.T) {
	for n := range impl.MaxBits + 1 {
		for u := range 1 << n {
			for _, b := range append(farNumbers(), append(outOfRange, 2, 3, 4, 5, -3, -4)...) {
				checkNoAffine(t, n, u, b)
			}
		}
	}
}

// TestDistanceBetweenRejects has tables of different numbers of variables, and what is no table on one side or on both.
func TestDistanceBetweenRejects(t *testing.T) {
	for n := range impl.MaxBits + 1 {
		for m := range impl.MaxBits + 1 {
			if n == m {
				continue
			}
			for _, f := range someTables(n) {
				for _, g := range someTables(m) {
					if got := impl.DistanceBetween(f, g); got != -1 {
						t.Fatalf("DistanceBetween(%v, %v) = %d", f, g, got)
					}
				}
			}
		}
	}
	for _, f := range notTables() {
		for _, g := range append(notTables(), f, impl.Table{}, impl.Table{Word: 1}, impl.Table{Bits: 5}, impl.Table{Bits: 5, Word: 1<<32 - 1}) {
			if a, b := impl.DistanceBetween(f, g), impl.DistanceBetween(g, f); a != -1 || b != -1 {
				t.Fatalf("DistanceBetween(%v, %v) = %d, back %d", f, g, a, b)
			}
		}
		if n := f.Bits; n >= 0 && n <= impl.MaxBits {
			for _, g := range someTables(n) {
				if a, b := impl.DistanceBetween(f, g), impl.DistanceBetween(g, f); a != -1 || b != -1 {
					t.Fatalf("DistanceBetween(%v, %v) = %d, back %d", f, g, a, b)
				}
			}
		}
	}
}

func TestAffineFunctionsRejectTables(t *testing.T) {
	for _, f := range notTables() {
		if impl.IsAffine(f) {
			t.Errorf("IsAffine(%v) = true", f)
		}
		if u, b, distance, ok := impl.NearestAffine(f); u != 0 || b != 0 || distance != 0 || ok {
			t.Errorf("NearestAffine(%v) = %d, %d, %d, %v", f, u, b, distance, ok)
		}
		if got := impl.TestRejects(f); got != -1 {
			t.Errorf("TestRejects(%v) = %d", f, got)
		}
		for _, k := range append(variablesAround(0), f.Bits-1, f.Bits, f.Bits+1) {
			if impl.IsJunta(f, k) {
				t.Errorf("IsJunta(%v, %d) = true", f, k)
			}
		}
		if l, ok := impl.LinearStructures(f); ok || len(l) != 0 {
			t.Errorf("LinearStructures(%v) = %v, %v", f, l, ok)
		}
	}
}
