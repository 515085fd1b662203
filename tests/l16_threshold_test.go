package tests

import (
	"math"
	"math/rand"
	"slices"
	"testing"

	"loop.example/g03403/impl"
)

// sumsOfWeights returns for each input the sum of the weights of the variables that are 1.
func sumsOfWeights(w []int) []int {
	l := make([]int, 1<<len(w))
	for x := range l {
		for i, b := range bitsOf(len(w), x) {
			l[x] += w[i] * b
		}
	}
	return l
}

// reaching returns the table that is 1 where the sum is at least t.
func reaching(n int, sums []int, t int) impl.Table {
	return tableOf(n, func(bits []int) int {
		if sums[inputOf(bits)] >= t {
			return 1
		}
		return 0
	})
}

// weightsByTable returns for each table of n variables that has weights from -3 to 3 those with the least sum of absolute values, of these the lexicographically first ones.
func weightsByTable(n int) map[impl.Table][]int {
	found := map[impl.Table][]int{}
	for _, w := range listsOf(n, -3, 3) {
		sums := sumsOfWeights(w)
		for t := slices.Min(sums); t <= slices.Max(sums)+1; t++ {
			f := reaching(n, sums, t)
			if l, ok := found[f]; !ok || sum(magnitudes(w)) < sum(magnitudes(l)) {
				found[f] = w
			}
		}
	}
	return found
}

// numberOfThresholds is, for none to four variables, how many tables have weights.
var numberOfThresholds = []int{2, 4, 14, 104, 1882}

// lowestOfOnes returns the least sum of an input with 1, or one more than the greatest sum if there is none.
func lowestOfOnes(f impl.Table, sums []int) int {
	t := slices.Max(sums) + 1
	for _, x := range inputsWith(f, 1) {
		t = min(t, sums[x])
	}
	return t
}

// haveEqualOnes reports whether each variable is 1 as often in a and b as in c and d.
func haveEqualOnes(n, a, b, c, d int) bool {
	v, w, x, y := bitsOf(n, a), bitsOf(n, b), bitsOf(n, c), bitsOf(n, d)
	for i := range n {
		if v[i]+w[i] != x[i]+y[i] {
			return false
		}
	}
	return true
}

// balanced returns in lexicographic order two inputs, the first one not the greater, and two others, likewise, with as many ones of each variable.
func balanced(n int) [][]int {
	var l [][]int
	for a := range 1 << n {
		for b := a; b < 1<<n; b++ {
			for c := range 1 << n {
				for d := c; d < 1<<n; d++ {
					// Equal ones of all variables add up to equal numbers, and this is sooner seen.
					if a+b == c+d && haveEqualOnes(n, a, b, c, d) {
						l = append(l, []int{a, b, c, d})
					}
				}
			}
		}
	}
	return l
}

// contradicts reports whether the list is two inputs with 1 and two with 0 with as many ones of each variable.
func contradicts(f impl.Table, l []int) bool {
	if len(l) != 4 {
		return false
	}
	for k, x := range l {
		if x < 0 || x >= 1<<f.Bits || values(f)[x] != 1-k/2 {
			return false
		}
	}
	return haveEqualOnes(f.Bits, l[0], l[1], l[2], l[3])
}

// firstOf returns the first of the balanced lists that has the values 1, 1, 0 and 0.
func firstOf(f impl.Table, lists [][]int) []int {
	v := values(f)
	for _, l := range lists {
		if v[l[0]]+v[l[1]] == 2 && v[l[2]]+v[l[3]] == 0 {
			return l
		}
	}
	return nil
}

// contradiction returns what Contradiction finds, which is nothing if it returns false.
func contradiction(t *testing.T, f impl.Table) []int {
	t.Helper()
	l, ok := impl.Contradiction(f)
	if len(l) != 4 && ok || len(l) != 0 && !ok {
		t.Fatalf("Contradiction(%v) = %v, %v", f, l, ok)
	}
	return l
}

// weightsFor returns what WeightsFor finds, with the threshold at the end, and nothing if it returns false.
func weightsFor(t *testing.T, f impl.Table) []int {
	t.Helper()
	w, threshold, ok := impl.WeightsFor(f)
	if !ok && (len(w) != 0 || threshold != 0) || ok && len(w) != f.Bits {
		t.Fatalf("WeightsFor(%v) = %v, %d, %v", f, w, threshold, ok)
	}
	if !ok {
		return nil
	}
	return append(w, threshold)
}

func weightsTable(t *testing.T, w []int, threshold int) impl.Table {
	t.Helper()
	f, ok := impl.TableOfWeights(w, threshold)
	return tables{t}.checked(f, ok, len(w), "TableOfWeights", w, threshold)
}

// checkWeights compares TableOfWeights with the sums for each threshold.
func checkWeights(t *testing.T, w []int, thresholds ...int) {
	t.Helper()
	sums := sumsOfWeights(w)
	for _, threshold := range thresholds {
		if got, want := weightsTable(t, w, threshold), reaching(len(w), sums, threshold); got != want {
			t.Fatalf("TableOfWeights(%v, %d) = %v, want %v", w, threshold, got, want)
		}
	}
}

// around returns the sums and what is beside them.
func around(sums []int) []int {
	var l []int
	for _, s := range sums {
		l = append(l, s-1, s, s+1)
	}
	return l
}

// randomWeights returns lists of none to five weights, with those of the limits among them.
func randomWeights(r *rand.Rand) [][]int {
	var l [][]int
	for n := range impl.MaxBits + 1 {
		for _, most := range []int{1, 2, 5, 20, 99, 100} {
			for range 10 {
				w := make([]int, n)
				for i := range w {
					w[i] = r.Intn(2*most+1) - most
				}
				l = append(l, w)
			}
		}
		l = append(l, slices.Repeat([]int{100}, n), slices.Repeat([]int{-100}, n))
	}
	return l
}

func TestTableOfWeightsInputByInput(t *testing.T) {
	for n := range 4 {
		for _, w := range listsOf(n, -2, 2) {
			checkWeights(t, w, -7, -6, -5, -4, -3, -2, -1, 0, 1, 2, 3, 4, 5, 6, 7)
		}
	}
	for _, w := range randomWeights(rand.New(rand.NewSource(16))) {
		checkWeights(t, w, around(sumsOfWeights(w))...)
		checkWeights(t, w, -1000, -999, -501, -1, 0, 1, 501, 999, 1000)
	}
}

// TestWeightsOrContradiction has promise 14.
func TestWeightsOrContradiction(t *testing.T) {
	for n, number := range numberOfThresholds {
		count := 0
		for _, f := range allTables(n) {
			w, l := weightsFor(t, f), contradiction(t, f)
			if (w == nil) == (l == nil) {
				t.Fatalf("WeightsFor(%v) = %v, Contradiction = %v", f, w, l)
			}
			if w == nil {
				if !impl.IsContradiction(f, l) {
					t.Fatalf("Contradiction(%v) = %v, which is none", f, l)
				}
				continue
			}
			count++
			if g := weightsTable(t, w[:n], w[n]); g != f {
				t.Fatalf("WeightsFor(%v) = %v, TableOfWeights = %v", f, w, g)
			}
		}
		if count != number {
			t.Errorf("%d tables of %d variables have weights, want %d", count, n, number)
		}
	}
}

// TestWeightsForAreFirstLeast tries all weights.
func TestWeightsForAreFirstLeast(t *testing.T) {
	for n, number := range numberOfThresholds {
		found := weightsByTable(n)
		if len(found) != number {
			t.Fatalf("%d tables of %d variables have weights", len(found), n)
		}
		for _, f := range allTables(n) {
			got := weightsFor(t, f)
			w, ok := found[f]
			if !ok && got != nil {
				t.Fatalf("WeightsFor(%v) = %v, want none", f, got)
			}
			if !ok {
				continue
			}
			if want := append(slices.Clone(w), lowestOfOnes(f, sumsOfWeights(w))); !slices.Equal(got, want) {
				t.Fatalf("WeightsFor(%v) = %v, want %v", f, got, want)
			}
		}
	}
}

// TestWeightsForHaveSigns has that a weight is positive where the variable raises values, negative where it lowers them, and 0 where it does not matter.
func TestWeightsForHaveSigns(t *testing.T) {
	for n := range impl.MaxBits {
		for _, f := range allTables(n) {
			w := weightsFor(t, f)
			if w == nil {
				continue
			}
			v := values(f)
			for i := range n {
				rise := 0
				for x := range 1 << (n - 1) {
					rise += v[withBit(n-1, x, i, 1)] - v[withBit(n-1, x, i, 0)]
				}
				if (w[i] > 0) != (rise > 0) || (w[i] < 0) != (rise < 0) || (w[i] == 0) == matters(f, i) {
					t.Fatalf("WeightsFor(%v) = %v, and variable %d raises it by %d", f, w, i, rise)
				}
			}
		}
	}
}

func TestIsThresholdIsWeightsFor(t *testing.T) {
	for _, f := range manyTables() {
		if got := impl.IsThreshold(f); got != (weightsFor(t, f) != nil) {
			t.Fatalf("IsThreshold(%v) = %v, WeightsFor = %v", f, got, weightsFor(t, f))
		}
	}
}

func TestContradictionIsFirst(t *testing.T) {
	lists := ofAll(balanced)
	for _, f := range pointTables() {
		got, want := contradiction(t, f), firstOf(f, lists[f.Bits])
		if !slices.Equal(got, want) {
			t.Fatalf("Contradiction(%v) = %v, want %v", f, got, want)
		}
		if got == nil {
			continue
		}
		if got[0] > got[1] || got[2] > got[3] || !contradicts(f, got) || !impl.IsContradiction(f, got) {
			t.Fatalf("Contradiction(%v) = %v, IsContradiction = %v", f, got, impl.IsContradiction(f, got))
		}
	}
}

// TestNoContradictionOfWeights has tables of as many as five variables, and weights far greater than those of WeightsFor.
func TestNoContradictionOfWeights(t *testing.T) {
	for _, w := range randomWeights(rand.New(rand.NewSource(17))) {
		for _, threshold := range around(sumsOfWeights(w)) {
			f := weightsTable(t, w, threshold)
			if l := contradiction(t, f); l != nil {
				t.Fatalf("Contradiction(%v) = %v, with the weights %v and %d", f, l, w, threshold)
			}
			if n := len(w); n < impl.MaxBits && weightsFor(t, f) == nil {
				t.Fatalf("WeightsFor(%v) fails, with the weights %v and %d", f, w, threshold)
			}
		}
	}
}

// TestIsContradictionOfAllLists has lists of inputs and, for few variables, of the numbers beside them.
func TestIsContradictionOfAllLists(t *testing.T) {
	for n := range 4 {
		lists := listsOf(4, 0, 1<<n-1)
		if n < 3 {
			lists = append(lists, listsOf(4, -1, 1<<n)...)
		}
		for _, f := range allTables(n) {
			for _, l := range lists {
				if got := impl.IsContradiction(f, l); got != contradicts(f, l) {
					t.Fatalf("IsContradiction(%v, %v) = %v", f, l, got)
				}
			}
		}
	}
}

// TestIsContradictionOfChangedLists changes one entry of a list that contradicts, or exchanges two.
func TestIsContradictionOfChangedLists(t *testing.T) {
	lists := ofAll(balanced)
	for _, f := range slices.Concat(sampleTables(), allTables(4)[:1<<12], monotoneTables(5)[:500]) {
		l := firstOf(f, lists[f.Bits])
		if l == nil {
			continue
		}
		for k := range l {
			for x := -1; x <= 1<<f.Bits; x++ {
				given := slices.Clone(l)
				given[k] = x
				if got := impl.IsContradiction(f, given); got != (x == l[k]) {
					t.Fatalf("IsContradiction(%v, %v) = %v, changed from %v", f, given, got, l)
				}
			}
			for j := range k {
				given := slices.Clone(l)
				given[j], given[k] = l[k], l[j]
				if got := impl.IsContradiction(f, given); got != (j/2 == k/2) {
					t.Fatalf("IsContradiction(%v, %v) = %v, exchanged from %v", f, given, got, l)
				}
			}
		}
	}
}

// TestChowNumbersCountInputs has all tables of at most four variables, and some of five.
func TestChowNumbersCountInputs(t *testing.T) {
	for _, f := range pointTables() {
		want := make([]int, f.Bits+1)
		for _, x := range inputsWith(f, 1) {
			want[0]++
			for i, b := range bitsOf(f.Bits, x) {
				want[i+1] += b
			}
		}
		if got := impl.ChowNumbers(f); !slices.Equal(got, want) {
			t.Fatalf("ChowNumbers(%v) = %v, want %v", f, got, want)
		}
	}
}

// TestChowNumbersTellThresholds has that no other table has the numbers of one with weights.
func TestChowNumbersTellThresholds(t *testing.T) {
	for n := range impl.MaxBits {
		seen := map[[5]int]int{}
		numbers := func(f impl.Table) [5]int {
			var l [5]int
			copy(l[:], impl.ChowNumbers(f))
			return l
		}
		for _, f := range allTables(n) {
			seen[numbers(f)]++
		}
		for _, f := range allTables(n) {
			if l := numbers(f); impl.IsThreshold(f) && seen[l] != 1 {
				t.Fatalf("ChowNumbers(%v) = %v, as for %d tables", f, l, seen[l])
			}
		}
	}
}

func TestCountThresholdCountsTables(t *testing.T) {
	checkCount(t, impl.CountThreshold, impl.IsThreshold, numberOfThresholds[:4])
}

// TestWeightsOfNothing has weights 0 only, or none at all, with thresholds below 0, at 0 and above.
func TestWeightsOfNothing(t *testing.T) {
	for n := range impl.MaxBits + 1 {
		zero, one := impl.Table{Bits: n}, impl.Table{Bits: n, Word: 1<<(1<<n) - 1}
		for _, w := range [][]int{make([]int, n), make([]int, n, 8), slices.Clip(make([]int, n))} {
			for _, threshold := range []int{-1000, -999, -2, -1, 0} {
				if got := weightsTable(t, w, threshold); got != one {
					t.Errorf("TableOfWeights(%v, %d) = %v", w, threshold, got)
				}
			}
			for _, threshold := range []int{1, 2, 999, 1000} {
				if got := weightsTable(t, w, threshold); got != zero {
					t.Errorf("TableOfWeights(%v, %d) = %v", w, threshold, got)
				}
			}
		}
	}
	if a, b := weightsTable(t, nil, 0), weightsTable(t, nil, 1); a != (impl.Table{Word: 1}) || b != (impl.Table{}) {
		t.Errorf("TableOfWeights of no weights = %v and %v", a, b)
	}
}

// TestWeightsOfSome has weights 0 beside others, where the table does not depend on the variable.
func TestWeightsOfSome(t *testing.T) {
	s := tables{t}
	for _, w := range randomWeights(rand.New(rand.NewSource(18))) {
		if len(w) == impl.MaxBits {
			continue
		}
		for i := range len(w) + 1 {
			more := slices.Insert(slices.Clone(w), i, 0)
			for _, threshold := range append(around(sumsOfWeights(w)), -500, -1, 0, 1, 500) {
				f := weightsTable(t, w, threshold)
				if got := weightsTable(t, more, threshold); got != s.join(f, f, i) {
					t.Fatalf("TableOfWeights(%v, %d) = %v, without variable %d %v", more, threshold, got, i, f)
				}
			}
		}
	}
}

// TestWeightsForConstants has weights 0 for both constants of none to four variables, as the least ones.
func TestWeightsForConstants(t *testing.T) {
	for n := range impl.MaxBits + 1 {
		zero, one := impl.Table{Bits: n}, impl.Table{Bits: n, Word: 1<<(1<<n) - 1}
		ones := []int{1 << n}
		for range n {
			ones = append(ones, 1<<n/2)
		}
		if a, b := impl.ChowNumbers(zero), impl.ChowNumbers(one); !slices.Equal(a, make([]int, n+1)) || !slices.Equal(b, ones) {
			t.Errorf("ChowNumbers(%v) = %v, ChowNumbers(%v) = %v", zero, a, one, b)
		}
		if a, b := contradiction(t, zero), contradiction(t, one); a != nil || b != nil {
			t.Errorf("Contradiction(%v) = %v, Contradiction(%v) = %v", zero, a, one, b)
		}
		if n == impl.MaxBits {
			continue
		}
		if got, want := weightsFor(t, zero), append(make([]int, n), 1); !slices.Equal(got, want) || !impl.IsThreshold(zero) {
			t.Errorf("WeightsFor(%v) = %v, want %v", zero, got, want)
		}
		if got, want := weightsFor(t, one), make([]int, n+1); !slices.Equal(got, want) || !impl.IsThreshold(one) {
			t.Errorf("WeightsFor(%v) = %v, want %v", one, got, want)
		}
	}
}

// TestThresholdsByHand has the threshold behind the weights.
func TestThresholdsByHand(t *testing.T) {
	for _, c := range []struct {
		text          string
		weights, chow []int
		contradiction []int
	}{
		{"0", []int{1}, []int{0}, nil},
		{"1", []int{0}, []int{1}, nil},
		{"01", []int{1, 1}, []int{1, 1}, nil},
		{"10", []int{-1, 0}, []int{1, 0}, nil},
		{"0101", []int{1, 0, 1}, []int{2, 2, 1}, nil},
		{"0011", []int{0, 1, 1}, []int{2, 1, 2}, nil},
		{"1010", []int{-1, 0, 0}, []int{2, 0, 1}, nil},
		{"0001", []int{1, 1, 2}, []int{1, 1, 1}, nil},
		{"0111", []int{1, 1, 1}, []int{3, 2, 2}, nil},
		{"1000", []int{-1, -1, 0}, []int{1, 0, 0}, nil},
		{"1110", []int{-1, -1, -1}, []int{3, 1, 1}, nil},
		{"0100", []int{1, -1, 1}, []int{1, 1, 0}, nil},
		{"1011", []int{-1, 1, 0}, []int{3, 1, 2}, nil},
		{"0110", nil, []int{2, 1, 1}, []int{1, 2, 0, 3}},
		{"1001", nil, []int{2, 1, 1}, []int{0, 3, 1, 2}},
		{"00010111", []int{1, 1, 1, 2}, []int{4, 3, 3, 3}, nil},
		{"00010101", []int{2, 1, 1, 3}, []int{3, 3, 2, 2}, nil},
		{"01010111", []int{2, 1, 1, 2}, []int{5, 4, 3, 3}, nil},
		{"10101000", []int{-2, -1, -1, -1}, []int{3, 0, 1, 1}, nil},
		{"10000001", nil, []int{2, 1, 1, 1}, []int{0, 7, 1, 6}},
		{"0001010101010101", []int{3, 1, 1, 1, 4}, []int{7, 7, 4, 4, 4}, nil},
		{"0001000100011111", nil, []int{7, 5, 5, 5, 5}, []int{3, 12, 5, 10}},
		{"0000000000000001", []int{1, 1, 1, 1, 4}, []int{1, 1, 1, 1, 1}, nil},
		{"1111111111111110", []int{-1, -1, -1, -1, -3}, []int{15, 7, 7, 7, 7}, nil},
	} {
		f, _ := impl.ParseTable(c.text)
		if got := weightsFor(t, f); !slices.Equal(got, c.weights) || impl.IsThreshold(f) != (c.weights != nil) {
			t.Errorf("WeightsFor of %s = %v, want %v, IsThreshold = %v", c.text, got, c.weights, impl.IsThreshold(f))
		}
		if got := impl.ChowNumbers(f); !slices.Equal(got, c.chow) {
			t.Errorf("ChowNumbers of %s = %v, want %v", c.text, got, c.chow)
		}
		if got := contradiction(t, f); !slices.Equal(got, c.contradiction) {
			t.Errorf("Contradiction of %s = %v, want %v", c.text, got, c.contradiction)
		}
	}
}

func TestThresholdListsAreNew(t *testing.T) {
	checkNewLists(t, func(_ *testing.T, f impl.Table) []int { return impl.ChowNumbers(f) })
	checkNewLists(t, contradiction)
	checkNewLists(t, func(_ *testing.T, f impl.Table) []int {
		w, _, _ := impl.WeightsFor(f)
		return w
	})
}

// TestThresholdsKeepLists has lists with more behind them in the same memory, which does not count.
func TestThresholdsKeepLists(t *testing.T) {
	for _, w := range randomWeights(rand.New(rand.NewSource(19))) {
		memory := append(slices.Clone(w), 7, -101, math.MinInt, 0, 0, 0)
		want := slices.Clone(memory)
		for _, threshold := range around(sumsOfWeights(w)) {
			if got := weightsTable(t, memory[:len(w)], threshold); got != weightsTable(t, slices.Clip(slices.Clone(w)), threshold) {
				t.Fatalf("TableOfWeights(%v, %d) = %v, with more behind it", w, threshold, got)
			}
		}
		impl.TableOfWeights(memory, 0)
		impl.TableOfWeights(memory[:len(w)+1], 1001)
		if !slices.Equal(memory, want) {
			t.Fatalf("TableOfWeights changes %v to %v", want, memory)
		}
	}
	for _, f := range sampleTables() {
		l := contradiction(t, f)
		if l == nil {
			continue
		}
		memory := append(slices.Clone(l), 0, -1, math.MaxInt)
		want := slices.Clone(memory)
		if !impl.IsContradiction(f, memory[:4]) || impl.IsContradiction(f, memory) || !slices.Equal(memory, want) {
			t.Fatalf("IsContradiction(%v, %v) fails, or leaves %v", f, want, memory)
		}
	}
}

func TestThresholdsAtTheSameTime(t *testing.T) {
	l := slices.Concat(allTables(3), monotoneTables(4))
	weights, contradictions := make([][]int, len(l)), make([][]int, len(l))
	for k, f := range l {
		weights[k], contradictions[k] = weightsFor(t, f), contradiction(t, f)
	}
	checkAtTheSameTime(t, l, func(k int) bool {
		w, threshold, ok := impl.WeightsFor(l[k])
		if ok {
			w = append(w, threshold)
		}
		c, _ := impl.Contradiction(l[k])
		return slices.Equal(w, weights[k]) && slices.Equal(c, contradictions[k])
	})
}

func TestThresholdsRejectTables(t *testing.T) {
	for _, f := range notTables() {
		if l := impl.ChowNumbers(f); len(l) != 0 {
			t.Errorf("ChowNumbers(%v) = %v", f, l)
		}
		if l, ok := impl.Contradiction(f); ok || len(l) != 0 {
			t.Errorf("Contradiction(%v) = %v, %v", f, l, ok)
		}
		for _, l := range [][]int{nil, {}, {1, 2, 0, 3}, {0, 3, 1, 2}, {0, 0, 0, 0}, {-1, -1, -1, -1}, {3, 12, 5, 10}} {
			if impl.IsContradiction(f, l) {
				t.Errorf("IsContradiction(%v, %v) = true", f, l)
			}
		}
	}
	// Tables of five variables have too many, even constants and those of weights.
	for _, f := range slices.Concat(notTables(), someTables(5), monotoneTables(5)[:200], affineTables(5)) {
		if w, threshold, ok := impl.WeightsFor(f); ok || len(w) != 0 || threshold != 0 {
			t.Errorf("WeightsFor(%v) = %v, %d, %v", f, w, threshold, ok)
		}
		if impl.IsThreshold(f) {
			t.Errorf("IsThreshold(%v) = true", f)
		}
	}
}

func checkNoWeights(t *testing.T, w []int, threshold int) {
	t.Helper()
	if f, ok := impl.TableOfWeights(w, threshold); ok || f != (impl.Table{}) {
		t.Fatalf("TableOfWeights(%v, %d) = %v, %v", w, threshold, f, ok)
	}
}

// beyond returns numbers of both signs that are farther from 0 than the limit.
func beyond(limit int) []int {
	l := []int{-limit - 1, limit + 1, -2 * limit, 2 * limit}
	for _, k := range farNumbers() {
		if k < -limit || k > limit {
			l = append(l, k)
		}
	}
	return l
}

// TestTableOfWeightsRejectsWeights has one weight beyond the limit at each place, and all of them, beside those that reach it.
func TestTableOfWeightsRejectsWeights(t *testing.T) {
	for n := 1; n <= impl.MaxBits; n++ {
		for i := range n {
			for _, k := range []int{-100, 100} {
				w := make([]int, n)
				w[i] = k
				checkWeights(t, w, -101, -100, -99, -1, 0, 1, 99, 100, 101)
			}
			for _, k := range beyond(100) {
				w := make([]int, n)
				w[i] = k
				for _, threshold := range []int{-1000, -1, 0, 1, 1000} {
					checkNoWeights(t, w, threshold)
					checkNoWeights(t, slices.Repeat([]int{k}, n), threshold)
				}
			}
		}
	}
}

func TestTableOfWeightsRejectsThresholds(t *testing.T) {
	for n := range impl.MaxBits + 1 {
		for _, k := range []int{-100, -1, 0, 1, 100} {
			w := slices.Repeat([]int{k}, n)
			checkWeights(t, w, -1000, 1000)
			for _, threshold := range beyond(1000) {
				checkNoWeights(t, w, threshold)
			}
		}
	}
}

func TestTableOfWeightsRejectsLengths(t *testing.T) {
	for length := range 140 {
		for _, k := range []int{-100, -1, 0, 1, 100} {
			w := slices.Repeat([]int{k}, length)
			for _, threshold := range []int{-1000, -1, 0, 1, 1000} {
				if length <= impl.MaxBits {
					checkWeights(t, w, threshold)
				} else {
					checkNoWeights(t, w, threshold)
				}
			}
		}
	}
	checkNoWeights(t, make([]int, 1<<16), 0)
}

// TestIsContradictionRejectsLengths has lists without their end or their beginning, and with more.
func TestIsContradictionRejectsLengths(t *testing.T) {
	lists := ofAll(balanced)
	for _, f := range sampleTables() {
		l := firstOf(f, lists[f.Bits])
		if l == nil {
			l = []int{0, 0, 0, 0}
		}
		for k := range l {
			for _, given := range [][]int{l[:k], l[k+1:], append(slices.Clone(l), l[k]), append([]int{l[k]}, l...), slices.Repeat(l, k+2)} {
				if impl.IsContradiction(f, given) {
					t.Fatalf("IsContradiction(%v, %v) = true", f, given)
				}
			}
		}
	}
}

// TestIsContradictionRejectsInputs adds to entries of a list that contradicts what is no variable, to one of them and to one of each two, which keeps the numbers of ones equal.
func TestIsContradictionRejectsInputs(t *testing.T) {
	lists := ofAll(balanced)
	for _, f := range sampleTables() {
		l := firstOf(f, lists[f.Bits])
		if l == nil {
			continue
		}
		wrong := append(farNumbers(), math.MinInt+1<<f.Bits)
		for i := f.Bits; i < 64; i++ {
			wrong = append(wrong, 1<<i, -1<<i)
		}
		for k := range l {
			for _, x := range wrong {
				one, two, far := slices.Clone(l), slices.Clone(l), slices.Clone(l)
				one[k] += x
				two[k/2] += x
				two[2+k%2] += x
				far[k] = x
				for _, given := range [][]int{one, two, far} {
					if got := impl.IsContradiction(f, given); got != contradicts(f, given) || got && !slices.Equal(given, l) {
						t.Fatalf("IsContradiction(%v, %v) = %v", f, given, got)
					}
				}
			}
		}
	}
}
