package tests

import (
	"math"
	"slices"
	"testing"

	"loop.example/g03403/impl"
)

// changesOf returns for each variable at how many inputs its change changes the value.
func changesOf(f impl.Table) []int {
	l := values(f)
	c := make([]int, f.Bits)
	for i := range c {
		for x := range l {
			bits := bitsOf(f.Bits, x)
			bits[i] = 1 - bits[i]
			if l[inputOf(bits)] != l[x] {
				c[i]++
			}
		}
	}
	return c
}

// influences returns InfluenceOf of each variable.
func influences(f impl.Table) []int {
	l := make([]int, f.Bits)
	for i := range l {
		l[i] = impl.InfluenceOf(f, i)
	}
	return l
}

// energies returns EnergyByLevel, with one number for no variables and one for each.
func energies(t *testing.T, f impl.Table) []int {
	t.Helper()
	l := impl.EnergyByLevel(f)
	if len(l) != f.Bits+1 {
		t.Fatalf("EnergyByLevel(%v) = %v", f, l)
	}
	return l
}

func pairsAt(t *testing.T, f impl.Table) []int {
	t.Helper()
	l := impl.PairsAtDistance(f)
	if len(l) != f.Bits+1 {
		t.Fatalf("PairsAtDistance(%v) = %v", f, l)
	}
	return l
}

// squaresBySize sums the squares of the numbers of all sets with as many variables.
func squaresBySize(n int, c []int) []int {
	l := make([]int, n+1)
	for size := range l {
		for set, number := range c {
			if sizeOf(set) == size {
				l[size] += number * number
			}
		}
	}
	return l
}

// pairsBySize counts the pairs of inputs with different values, each with the lesser one first.
func pairsBySize(f impl.Table) []int {
	c := make([]int, f.Bits+1)
	l := values(f)
	for y := range l {
		for x := range y {
			if l[x] != l[y] {
				c[differences(bitsOf(f.Bits, x), bitsOf(f.Bits, y))]++
			}
		}
	}
	return c
}

// numberOf returns how many of the values are v.
func numberOf(l []int, v int) int {
	count := 0
	for _, w := range l {
		if w == v {
			count++
		}
	}
	return count
}

// firstGreatest returns the place of the greatest number, of several ones the first; -1 for no numbers.
func firstGreatest(l []int) int {
	if len(l) == 0 {
		return -1
	}
	return slices.Index(l, slices.Max(l))
}

// weighed returns the sum of all numbers, each times its place.
func weighed(l []int) int {
	total := 0
	for k, number := range l {
		total += k * number
	}
	return total
}

func TestInfluenceOfCountsInputs(t *testing.T) {
	for _, f := range manyTables() {
		if got, want := influences(f), changesOf(f); !slices.Equal(got, want) {
			t.Fatalf("InfluenceOf(%v) = %v, want %v", f, got, want)
		}
	}
}

func TestTotalInfluenceIsSum(t *testing.T) {
	for _, f := range manyTables() {
		if got := impl.TotalInfluence(f); got != sum(influences(f)) || got != sum(changesOf(f)) {
			t.Fatalf("TotalInfluence(%v) = %d, InfluenceOf = %v", f, got, influences(f))
		}
	}
}

func TestEnergyByLevelSumsSquares(t *testing.T) {
	sums := sumsOfAll()
	for _, f := range manyTables() {
		got := energies(t, f)
		if want := squaresBySize(f.Bits, spectrumOf(t, f)); !slices.Equal(got, want) {
			t.Fatalf("EnergyByLevel(%v) = %v, want %v", f, got, want)
		}
		if want := squaresBySize(f.Bits, counted(f, sums[f.Bits])); !slices.Equal(got, want) {
			t.Fatalf("EnergyByLevel(%v) = %v, want %v", f, got, want)
		}
	}
}

func TestPairsAtDistanceCountsPairs(t *testing.T) {
	for _, f := range manyTables() {
		if got, want := pairsAt(t, f), pairsBySize(f); !slices.Equal(got, want) {
			t.Fatalf("PairsAtDistance(%v) = %v, want %v", f, got, want)
		}
	}
}

func TestVarianceOfIsProduct(t *testing.T) {
	for _, f := range manyTables() {
		l := values(f)
		want := numberOf(l, 1) * numberOf(l, 0)
		if got := impl.VarianceOf(f); got != want || got != sum(pairsAt(t, f)) {
			t.Fatalf("VarianceOf(%v) = %d, want %d, PairsAtDistance = %v", f, got, want, impl.PairsAtDistance(f))
		}
	}
}

func TestMostInfluentialIsFirstGreatest(t *testing.T) {
	first := make([]int, impl.MaxBits)
	ties := 0
	for _, f := range manyTables() {
		l := changesOf(f)
		want := firstGreatest(l)
		if got := impl.MostInfluential(f); got != want {
			t.Fatalf("MostInfluential(%v) = %d, want %d, InfluenceOf = %v", f, got, want, l)
		}
		if want >= 0 {
			first[want]++
			if numberOf(l, l[want]) > 1 && want > 0 {
				ties++
			}
		}
	}
	// Each variable is the answer somewhere, and one after the first has ties.
	if slices.Min(first) == 0 || ties == 0 {
		t.Errorf("the variables are the first ones %v times, with %d ties after a lesser one", first, ties)
	}
}

// TestInfluencesOfTables has fixed numbers.
func TestInfluencesOfTables(t *testing.T) {
	for _, c := range []struct {
		f                         string
		influences, energy, pairs []int
		variance, most            int
	}{
		{"0", nil, []int{1}, []int{0}, 0, -1},
		{"1", nil, []int{1}, []int{0}, 0, -1},
		{"00", []int{0}, []int{4, 0}, []int{0, 0}, 0, 0},
		{"11", []int{0}, []int{4, 0}, []int{0, 0}, 0, 0},
		{"01", []int{2}, []int{0, 4}, []int{0, 1}, 1, 0},
		{"10", []int{2}, []int{0, 4}, []int{0, 1}, 1, 0},
		{"0001", []int{2, 2}, []int{4, 8, 4}, []int{0, 2, 1}, 3, 0},
		{"0100", []int{2, 2}, []int{4, 8, 4}, []int{0, 2, 1}, 3, 0},
		{"0110", []int{4, 4}, []int{0, 0, 16}, []int{0, 4, 0}, 4, 0},
		{"0101", []int{4, 0}, []int{0, 16, 0}, []int{0, 2, 2}, 4, 0},
		{"0011", []int{0, 4}, []int{0, 16, 0}, []int{0, 2, 2}, 4, 1},
		{"1100", []int{0, 4}, []int{0, 16, 0}, []int{0, 2, 2}, 4, 1},
		{"00000001", []int{2, 2, 2}, []int{36, 12, 12, 4}, []int{0, 3, 3, 1}, 7, 0},
		{"00010111", []int{4, 4, 4}, []int{0, 48, 0, 16}, []int{0, 6, 6, 4}, 16, 0},
		{"01101001", []int{8, 8, 8}, []int{0, 0, 0, 64}, []int{0, 12, 0, 4}, 16, 0},
		{"01111110", []int{4, 4, 4}, []int{16, 0, 48, 0}, []int{0, 6, 6, 0}, 12, 0},
		// Variable 0 chooses one of the others in the first, and variable 2 in the last one.
		{"00100111", []int{4, 4, 4}, []int{0, 32, 32, 0}, []int{0, 6, 8, 2}, 16, 0},
		{"01010011", []int{4, 4, 4}, []int{0, 32, 32, 0}, []int{0, 6, 8, 2}, 16, 0},
		// Variable 2 and one of the others, and variable 1 or both of the others.
		{"00000111", []int{2, 2, 6}, []int{4, 44, 12, 4}, []int{0, 5, 7, 3}, 15, 2},
		{"00110111", []int{2, 6, 2}, []int{4, 44, 12, 4}, []int{0, 5, 7, 3}, 15, 1},
		// Two variables tie, and the one before them has less.
		{"00111100", []int{0, 8, 8}, []int{0, 0, 64, 0}, []int{0, 8, 8, 0}, 16, 1},
		{"00000011", []int{0, 4, 4}, []int{16, 32, 16, 0}, []int{0, 4, 6, 2}, 12, 1},
	} {
		f, _ := impl.ParseTable(c.f)
		if got := influences(f); !slices.Equal(got, c.influences) || impl.TotalInfluence(f) != sum(c.influences) {
			t.Errorf("InfluenceOf(%s) = %v, want %v, TotalInfluence = %d", c.f, got, c.influences, impl.TotalInfluence(f))
		}
		if got := impl.EnergyByLevel(f); !slices.Equal(got, c.energy) {
			t.Errorf("EnergyByLevel(%s) = %v, want %v", c.f, got, c.energy)
		}
		if got := impl.PairsAtDistance(f); !slices.Equal(got, c.pairs) {
			t.Errorf("PairsAtDistance(%s) = %v, want %v", c.f, got, c.pairs)
		}
		if impl.VarianceOf(f) != c.variance || impl.MostInfluential(f) != c.most {
			t.Errorf("VarianceOf(%s) = %d, want %d, MostInfluential = %d, want %d", c.f, impl.VarianceOf(f), c.variance, impl.MostInfluential(f), c.most)
		}
	}
}

// TestInfluencesOfFiveVariables has the sum of all of them, their and, their majority, the last one alone, and the last one together with any other one.
func TestInfluencesOfFiveVariables(t *testing.T) {
	for _, c := range []struct {
		value                     func(bits []int) int
		influences, energy, pairs []int
		variance, most            int
	}{
		{func(bits []int) int { return sum(bits) % 2 }, []int{32, 32, 32, 32, 32}, []int{0, 0, 0, 0, 0, 1024}, []int{0, 80, 0, 160, 0, 16}, 256, 0},
		{func(bits []int) int { return slices.Min(bits) }, []int{2, 2, 2, 2, 2}, []int{900, 20, 40, 40, 20, 4}, []int{0, 5, 10, 10, 5, 1}, 31, 0},
		{func(bits []int) int { return sum(bits) / 3 }, []int{12, 12, 12, 12, 12}, []int{0, 720, 0, 160, 0, 144}, []int{0, 30, 60, 100, 50, 16}, 256, 0},
		{func(bits []int) int { return bits[4] }, []int{0, 0, 0, 0, 32}, []int{0, 1024, 0, 0, 0, 0}, []int{0, 16, 64, 96, 64, 16}, 256, 4},
		{func(bits []int) int { return bits[4] * slices.Max(bits[:4]) }, []int{2, 2, 2, 2, 30}, []int{4, 916, 40, 40, 20, 4}, []int{0, 19, 66, 94, 61, 15}, 255, 4},
	} {
		f := tableOf(5, c.value)
		if got := influences(f); !slices.Equal(got, c.influences) || impl.TotalInfluence(f) != sum(c.influences) {
			t.Errorf("InfluenceOf(%v) = %v, want %v, TotalInfluence = %d", f, got, c.influences, impl.TotalInfluence(f))
		}
		if got := impl.EnergyByLevel(f); !slices.Equal(got, c.energy) {
			t.Errorf("EnergyByLevel(%v) = %v, want %v", f, got, c.energy)
		}
		if got := impl.PairsAtDistance(f); !slices.Equal(got, c.pairs) {
			t.Errorf("PairsAtDistance(%v) = %v, want %v", f, got, c.pairs)
		}
		if impl.VarianceOf(f) != c.variance || impl.MostInfluential(f) != c.most {
			t.Errorf("VarianceOf(%v) = %d, want %d, MostInfluential = %d, want %d", f, impl.VarianceOf(f), c.variance, impl.MostInfluential(f), c.most)
		}
	}
}

// TestInfluencesOfNoVariables has both tables, which no change of a variable changes.
func TestInfluencesOfNoVariables(t *testing.T) {
	for _, f := range []impl.Table{{}, {Word: 1}} {
		for _, i := range variablesAround(0) {
			if got := impl.InfluenceOf(f, i); got != -1 {
				t.Errorf("InfluenceOf(%v, %d) = %d", f, i, got)
			}
		}
		if got := impl.EnergyByLevel(f); !slices.Equal(got, []int{1}) {
			t.Errorf("EnergyByLevel(%v) = %v", f, got)
		}
		if got := impl.PairsAtDistance(f); !slices.Equal(got, []int{0}) {
			t.Errorf("PairsAtDistance(%v) = %v", f, got)
		}
		if impl.TotalInfluence(f) != 0 || impl.VarianceOf(f) != 0 || impl.MostInfluential(f) != -1 {
			t.Errorf("TotalInfluence(%v) = %d, VarianceOf = %d, MostInfluential = %d", f, impl.TotalInfluence(f), impl.VarianceOf(f), impl.MostInfluential(f))
		}
	}
}

// TestInfluencesOfConstants has that all variables have the greatest influence, which is 0.
func TestInfluencesOfConstants(t *testing.T) {
	for n := 1; n <= impl.MaxBits; n++ {
		for _, word := range []int{0, 1<<(1<<n) - 1} {
			f := impl.Table{Bits: n, Word: word}
			zeros := make([]int, n+1)
			if got := influences(f); !slices.Equal(got, zeros[:n]) {
				t.Errorf("InfluenceOf(%v) = %v", f, got)
			}
			if got := impl.PairsAtDistance(f); !slices.Equal(got, zeros) {
				t.Errorf("PairsAtDistance(%v) = %v", f, got)
			}
			if got := impl.EnergyByLevel(f); !slices.Equal(got, append([]int{1 << (2 * n)}, zeros[:n]...)) {
				t.Errorf("EnergyByLevel(%v) = %v", f, got)
			}
			if impl.TotalInfluence(f) != 0 || impl.VarianceOf(f) != 0 || impl.MostInfluential(f) != 0 {
				t.Errorf("TotalInfluence(%v) = %d, VarianceOf = %d, MostInfluential = %d", f, impl.TotalInfluence(f), impl.VarianceOf(f), impl.MostInfluential(f))
			}
		}
	}
}

// TestInfluencesOfSums has that only the variables of the sum have influence, all of them the same, and only their level has energy.
func TestInfluencesOfSums(t *testing.T) {
	for n, sums := range sumsOfAll() {
		for set, l := range sums {
			for b := range 2 {
				f := tableOf(n, func(bits []int) int { return (l[inputOf(bits)] + b) % 2 })
				for i, in := range bitsOf(n, set) {
					if got := impl.InfluenceOf(f, i); got != in*(1<<n) {
						t.Fatalf("InfluenceOf(%v, %d) = %d", f, i, got)
					}
				}
				energy := make([]int, n+1)
				energy[sizeOf(set)] = 1 << (2 * n)
				if got := energies(t, f); !slices.Equal(got, energy) {
					t.Fatalf("EnergyByLevel(%v) = %v, want %v", f, got, energy)
				}
				most := firstGreatest(bitsOf(n, set))
				if impl.TotalInfluence(f) != sizeOf(set)*(1<<n) || impl.MostInfluential(f) != most {
					t.Fatalf("TotalInfluence(%v) = %d, MostInfluential = %d, want %d", f, impl.TotalInfluence(f), impl.MostInfluential(f), most)
				}
			}
		}
	}
}

// TestInfluencesAreEdges counts each edge at both of its inputs.
func TestInfluencesAreEdges(t *testing.T) {
	for _, f := range manyTables() {
		edges := impl.SensitiveEdges(f)
		if got := impl.TotalInfluence(f); got != 2*edges || got != sum(sensitivities(f, impl.SensitivityAt)) {
			t.Fatalf("TotalInfluence(%v) = %d, SensitiveEdges = %d", f, got, edges)
		}
		pairs := pairsAt(t, f)
		if pairs[0] != 0 || f.Bits > 0 && pairs[1] != edges {
			t.Fatalf("PairsAtDistance(%v) = %v, SensitiveEdges = %d", f, pairs, edges)
		}
	}
}

// TestInfluencesAreWeighedByLevels has that each level counts as often as its sets have variables.
func TestInfluencesAreWeighedByLevels(t *testing.T) {
	for _, f := range manyTables() {
		energy := energies(t, f)
		if got := impl.TotalInfluence(f); weighed(energy) != got*(1<<f.Bits) {
			t.Fatalf("TotalInfluence(%v) = %d, EnergyByLevel = %v", f, got, energy)
		}
		if got := impl.VarianceOf(f); sum(energy) != 1<<(2*f.Bits) || sum(energy[1:]) != 4*got {
			t.Fatalf("VarianceOf(%v) = %d, EnergyByLevel = %v", f, got, energy)
		}
	}
}

// TestInfluenceOfIsOfSets has the squares of the numbers of all sets with the variable.
func TestInfluenceOfIsOfSets(t *testing.T) {
	for _, f := range manyTables() {
		c := spectrumOf(t, f)
		for i, got := range influences(f) {
			total := 0
			for set, number := range c {
				total += bitsOf(f.Bits, set)[i] * number * number
			}
			if total != got*(1<<f.Bits) {
				t.Fatalf("InfluenceOf(%v, %d) = %d, SpectrumOf = %v", f, i, got, c)
			}
		}
	}
}

// TestPairsAtDistanceAreOfAutocorrelation counts each pair from both of its inputs.
func TestPairsAtDistanceAreOfAutocorrelation(t *testing.T) {
	for _, f := range manyTables() {
		want := make([]int, f.Bits+1)
		for s, number := range autocorrelationOf(t, f) {
			want[sizeOf(s)] += 1<<f.Bits - number
		}
		got := pairsAt(t, f)
		for k, number := range want {
			if number != 4*got[k] {
				t.Fatalf("PairsAtDistance(%v) = %v, AutocorrelationOf = %v", f, got, impl.AutocorrelationOf(f))
			}
		}
	}
}

// signsBySize returns for each number k of changed variables how many more of their sets leave the sum of the first j of n variables as it is than change it.
func signsBySize(n, j int) []int {
	l := make([]int, n+1)
	for set := range 1 << n {
		l[sizeOf(set)] += 1 - 2*(sum(bitsOf(n, set)[:j])%2)
	}
	return l
}

// TestPairsAtDistanceAreOfEnergies has that the levels tell how many pairs there are at each distance.
func TestPairsAtDistanceAreOfEnergies(t *testing.T) {
	signs := make([][][]int, impl.MaxBits+1)
	for n := range signs {
		for j := range n + 1 {
			signs[n] = append(signs[n], signsBySize(n, j))
		}
	}
	for _, f := range manyTables() {
		n, energy, pairs := f.Bits, energies(t, f), pairsAt(t, f)
		for k, number := range pairs {
			total := 0
			for j, e := range energy {
				total += (signs[n][0][k] - signs[n][j][k]) * e
			}
			if total != 4*number*(1<<n) {
				t.Fatalf("PairsAtDistance(%v) = %v, EnergyByLevel = %v", f, pairs, energy)
			}
		}
	}
}

// TestInfluenceOfIsOfRestrictions compares the tables for both values of the variable.
func TestInfluenceOfIsOfRestrictions(t *testing.T) {
	for _, f := range manyTables() {
		for i, got := range influences(f) {
			zero, _ := impl.RestrictTable(f, i, 0)
			one, _ := impl.RestrictTable(f, i, 1)
			if got != 2*differences(values(zero), values(one)) || (got > 0) != impl.DependsOn(f, i) {
				t.Fatalf("InfluenceOf(%v, %d) = %d, RestrictTable %v and %v", f, i, got, zero, one)
			}
		}
	}
}

// checkSameInfluences has that what does not tell the variables apart is equal.
func checkSameInfluences(t *testing.T, g, f impl.Table) {
	t.Helper()
	if !slices.Equal(energies(t, g), energies(t, f)) || !slices.Equal(pairsAt(t, g), pairsAt(t, f)) {
		t.Fatalf("EnergyByLevel(%v) = %v, PairsAtDistance = %v, of %v %v, %v", g, impl.EnergyByLevel(g), impl.PairsAtDistance(g), f, impl.EnergyByLevel(f), impl.PairsAtDistance(f))
	}
	if impl.TotalInfluence(g) != impl.TotalInfluence(f) || impl.VarianceOf(g) != impl.VarianceOf(f) {
		t.Fatalf("TotalInfluence(%v) = %d, VarianceOf = %d, of %v %d, %d", g, impl.TotalInfluence(g), impl.VarianceOf(g), f, impl.TotalInfluence(f), impl.VarianceOf(f))
	}
}

// checkSameVariables has that each variable has the same influence, too.
func checkSameVariables(t *testing.T, g, f impl.Table) {
	t.Helper()
	if !slices.Equal(influences(g), influences(f)) || impl.MostInfluential(g) != impl.MostInfluential(f) {
		t.Fatalf("InfluenceOf(%v) = %v, MostInfluential = %d, of %v %v, %d", g, influences(g), impl.MostInfluential(g), f, influences(f), impl.MostInfluential(f))
	}
	checkSameInfluences(t, g, f)
}

func TestInfluencesOfNegationsAndShifts(t *testing.T) {
	for _, f := range sampleTables() {
		g, _ := impl.NotTable(f)
		checkSameVariables(t, g, f)
		for x := range 1 << f.Bits {
			checkSameVariables(t, (tables{t}).shift(f, x), f)
		}
	}
}

func TestInfluencesOfPermutations(t *testing.T) {
	for n := range impl.MaxBits + 1 {
		l := tablesOf(n)
		if n == impl.MaxBits {
			l = l[:12]
		}
		for _, f := range l {
			before := influences(f)
			for _, p := range orders(n) {
				g := (tables{t}).permute(f, p)
				want := make([]int, n)
				for i, k := range p {
					want[k] = before[i]
				}
				if got := influences(g); !slices.Equal(got, want) || impl.MostInfluential(g) != firstGreatest(want) {
					t.Fatalf("InfluenceOf(%v) = %v, want %v, MostInfluential = %d", g, got, want, impl.MostInfluential(g))
				}
				checkSameInfluences(t, g, f)
			}
		}
	}
}

// TestInfluencesOfUselessVariables adds a variable that does not matter at each place.
func TestInfluencesOfUselessVariables(t *testing.T) {
	for n := range impl.MaxBits {
		for _, f := range tablesOf(n) {
			before, energy, pairs := influences(f), energies(t, f), pairsAt(t, f)
			for k := range energy {
				energy[k] *= 4
			}
			// A pair has both values of the new variable, in the same way or in the other way.
			more := make([]int, n+2)
			for k, number := range pairs {
				more[k] += 2 * number
				more[k+1] += 2 * number
			}
			for i := range before {
				before[i] *= 2
			}
			for i := range n + 1 {
				g := (tables{t}).join(f, f, i)
				if got, want := influences(g), slices.Insert(slices.Clone(before), i, 0); !slices.Equal(got, want) || impl.MostInfluential(g) != firstGreatest(want) {
					t.Fatalf("InfluenceOf(%v) = %v, want %v, MostInfluential = %d", g, got, want, impl.MostInfluential(g))
				}
				if got := energies(t, g); !slices.Equal(got, append(slices.Clone(energy), 0)) {
					t.Fatalf("EnergyByLevel(%v) = %v, want %v and 0", g, got, energy)
				}
				if got := pairsAt(t, g); !slices.Equal(got, more) {
					t.Fatalf("PairsAtDistance(%v) = %v, want %v", g, got, more)
				}
				if impl.TotalInfluence(g) != 2*impl.TotalInfluence(f) || impl.VarianceOf(g) != 4*impl.VarianceOf(f) {
					t.Fatalf("TotalInfluence(%v) = %d, VarianceOf = %d, of %v %d, %d", g, impl.TotalInfluence(g), impl.VarianceOf(g), f, impl.TotalInfluence(f), impl.VarianceOf(f))
				}
			}
		}
	}
}

// TestMostInfluentialOfTies has tables of all variables of a set in the same way, so that they tie.
func TestMostInfluentialOfTies(t *testing.T) {
	for n := 1; n <= impl.MaxBits; n++ {
		for set := 1; set < 1<<n; set++ {
			members := bitsOf(n, set)
			least := slices.Index(members, 1)
			for _, value := range []func(ones int) int{
				func(ones int) int { return ones % 2 },
				func(ones int) int { return min(ones, 1) },
				func(ones int) int { return ones / sizeOf(set) },
				func(ones int) int { return min(2*ones/(sizeOf(set)+1), 1) },
			} {
				f := tableOf(n, func(bits []int) int {
					ones := 0
					for i, b := range bits {
						ones += b * members[i]
					}
					return value(ones)
				})
				if got := impl.MostInfluential(f); got != least {
					t.Fatalf("MostInfluential(%v) = %d, want %d, InfluenceOf = %v", f, got, least, influences(f))
				}
			}
		}
	}
}

func TestInfluencesAreNewLists(t *testing.T) {
	checkNewLists(t, energies)
	checkNewLists(t, pairsAt)
}

func TestInfluencesAtTheSameTime(t *testing.T) {
	l := append(someTables(4), someTables(5)...)
	changes, pairs, energy := make([][]int, len(l)), make([][]int, len(l)), make([][]int, len(l))
	sums := sumsOfAll()
	for k, f := range l {
		changes[k], pairs[k], energy[k] = changesOf(f), pairsBySize(f), squaresBySize(f.Bits, counted(f, sums[f.Bits]))
	}
	checkAtTheSameTime(t, l, func(k int) bool {
		return slices.Equal(impl.PairsAtDistance(l[k]), pairs[k]) && slices.Equal(impl.EnergyByLevel(l[k]), energy[k]) && impl.TotalInfluence(l[k]) == sum(changes[k])
	})
}

// TestPairsAtDistanceCountsAllPairs calls the function many times for tables with the most pairs, so that it would show if goroutines lost some of them.
func TestPairsAtDistanceCountsAllPairs(t *testing.T) {
	last := tableOf(5, func(bits []int) int { return bits[4] })
	all := tableOf(5, func(bits []int) int { return sum(bits) % 2 })
	for range 5000 {
		if got := impl.PairsAtDistance(last); !slices.Equal(got, []int{0, 16, 64, 96, 64, 16}) {
			t.Fatalf("PairsAtDistance(%v) = %v", last, got)
		}
		if got := impl.PairsAtDistance(all); !slices.Equal(got, []int{0, 80, 0, 160, 0, 16}) {
			t.Fatalf("PairsAtDistance(%v) = %v", all, got)
		}
	}
}

// variablesAround returns numbers that are no variables of n: all up to those beyond the bits of an int, and far ones of both signs.
func variablesAround(n int) []int {
	l := slices.Clone(outOfRange)
	for i := n; i < 130; i++ {
		l = append(l, i)
	}
	for i := 1; i < 130; i++ {
		l = append(l, -i)
	}
	return append(l, math.MinInt+n, math.MaxInt-n, math.MinInt/2, math.MaxInt/2)
}

func TestInfluenceOfRejectsVariables(t *testing.T) {
	for n := range impl.MaxBits + 1 {
		for _, f := range tablesOf(n) {
			for _, i := range variablesAround(n) {
				if got := impl.InfluenceOf(f, i); got != -1 {
					t.Fatalf("InfluenceOf(%v, %d) = %d", f, i, got)
				}
			}
		}
	}
}

// TestInfluencesRejectTables has what would be a variable of a table as well as what would be none.
func TestInfluencesRejectTables(t *testing.T) {
	for _, f := range notTables() {
		for _, i := range append(variablesAround(0), f.Bits-1, f.Bits, f.Bits+1, -f.Bits) {
			if got := impl.InfluenceOf(f, i); got != -1 {
				t.Errorf("InfluenceOf(%v, %d) = %d", f, i, got)
			}
		}
		if l := impl.EnergyByLevel(f); len(l) != 0 {
			t.Errorf("EnergyByLevel(%v) = %v", f, l)
		}
		if l := impl.PairsAtDistance(f); len(l) != 0 {
			t.Errorf("PairsAtDistance(%v) = %v", f, l)
		}
		if impl.TotalInfluence(f) != -1 || impl.VarianceOf(f) != -1 || impl.MostInfluential(f) != -1 {
			t.Errorf("TotalInfluence(%v) = %d, VarianceOf = %d, MostInfluential = %d", f, impl.TotalInfluence(f), impl.VarianceOf(f), impl.MostInfluential(f))
		}
	}
}
