package tests

import (
	"math"
	"slices"
	"testing"

	"loop.example/g03403/impl"
)

// way is a list of variables, an input to shift by, and whether the values are negated at last.
type way struct {
	p      []int
	x      int
	negate bool
}

func waysOf(n int) []way {
	var l []way
	for _, p := range orders(n) {
		for x := range 1 << n {
			l = append(l, way{p, x, false}, way{p, x, true})
		}
	}
	return l
}

// from returns the table to which the way leads, value by value and without the functions of chapters 2 and 3.
func (w way) from(f impl.Table) impl.Table {
	shift := bitsOf(f.Bits, w.x)
	to := make([]int, f.Bits)
	g := impl.Table{Bits: f.Bits}
	for x, v := range values(f) {
		for i, b := range bitsOf(f.Bits, x) {
			to[w.p[i]] = (b + shift[w.p[i]]) % 2
		}
		if w.negate {
			v = 1 - v
		}
		g.Word += v * (1 << inputOf(to))
	}
	return g
}

// made returns what PermuteTable, ShiftTable and NotTable make of f in all ways.
func made(t *testing.T, f impl.Table) []impl.Table {
	s := tables{t}
	var l []impl.Table
	for _, p := range orders(f.Bits) {
		for x := range 1 << f.Bits {
			g := s.shift(s.permute(f, p), x)
			h, _ := impl.NotTable(g)
			l = append(l, g, h)
		}
	}
	return l
}

// numberOfWays are the lists, the inputs and the signs for 0 to 4 variables.
var numberOfWays = []int{1 * 1 * 2, 1 * 2 * 2, 2 * 4 * 2, 6 * 8 * 2, 24 * 16 * 2}

func canonical(t *testing.T, f impl.Table) impl.Table {
	t.Helper()
	g, ok := impl.CanonicalTable(f)
	return tables{t}.checked(g, ok, f.Bits, "CanonicalTable", f)
}

// fewTables returns all tables of at most 3 variables, and some of 4.
func fewTables() []impl.Table {
	var l []impl.Table
	for n := range 5 {
		l = append(l, tablesOf(n)...)
	}
	return l
}

// withoutClass are no tables, or tables of five variables.
func withoutClass() []impl.Table {
	return append(notTables(), someTables(5)...)
}

// TestClassesAreThoseOfAllWays counts the ways without the functions of the program.
func TestClassesAreThoseOfAllWays(t *testing.T) {
	for _, f := range fewTables() {
		ways := map[impl.Table]int{}
		least := f
		for _, w := range waysOf(f.Bits) {
			g := w.from(f)
			ways[g]++
			if g.Word < least.Word {
				least = g
			}
		}
		if got := canonical(t, f); got != least {
			t.Fatalf("CanonicalTable(%v) = %v, want %v", f, got, least)
		}
		if got := impl.ClassSize(f); got != len(ways) {
			t.Fatalf("ClassSize(%v) = %d, want %d", f, got, len(ways))
		}
		if got := impl.SymmetriesOf(f); got != ways[f] {
			t.Fatalf("SymmetriesOf(%v) = %d, want %d", f, got, ways[f])
		}
	}
}

// TestCanonicalTableDoesNotDependOnWays checks the canonical tables of what the functions of chapters 2 and 3 make.
func TestCanonicalTableDoesNotDependOnWays(t *testing.T) {
	for n := range 5 {
		l := tablesOf(n)
		if n == 4 {
			l = l[1:7]
		}
		for _, f := range l {
			want := canonical(t, f)
			found := false
			for _, g := range made(t, f) {
				if got := canonical(t, g); got != want {
					t.Fatalf("CanonicalTable(%v) = %v, but %v for %v", g, got, want, f)
				}
				if g.Word < want.Word {
					t.Fatalf("CanonicalTable(%v) = %v, but %v is less", f, want, g)
				}
				if !impl.AreAlike(f, g) || !impl.AreAlike(g, f) {
					t.Fatalf("AreAlike is false for %v and %v", f, g)
				}
				found = found || g == want
			}
			if !found {
				t.Fatalf("CanonicalTable(%v) = %v does not come from it", f, want)
			}
		}
	}
}

func TestCanonicalTableOfItself(t *testing.T) {
	for _, f := range append(fewTables(), allTables(4)[:3000]...) {
		g := canonical(t, f)
		if got := canonical(t, g); got != g || g.Word > f.Word {
			t.Fatalf("CanonicalTable(%v) = %v, and of this it is %v", f, g, got)
		}
	}
}

func TestCanonicalTableReturnsLeast(t *testing.T) {
	for _, c := range []struct {
		f, want string
		size    int
	}{
		{"01", "10", 2},
		{"0111", "1000", 8},
		{"1001", "0110", 2},
		{"0101", "1100", 4},
		{"1111", "0000", 2},
		{"00010111", "11101000", 8},
		{"01101001", "10010110", 2},
		{"00000001", "10000000", 16},
		{"01010101", "11110000", 6},
		{"0000000000000001", "1000000000000000", 32},
		{"1001011001101001", "0110100110010110", 2},
		{"0101010101010101", "1111111100000000", 8},
		// Of variable 0 and 1, exclusive or 2 and 3: three pairings, and a change of each of 4 signs and of the values.
		{"0001000100011110", "0110101011000000", 3 * 16 * 2},
	} {
		f, _ := impl.ParseTable(c.f)
		if got := impl.FormatTable(canonical(t, f)); got != c.want {
			t.Errorf("CanonicalTable of %s is %s, want %s", c.f, got, c.want)
		}
		if got := impl.ClassSize(f); got != c.size {
			t.Errorf("ClassSize of %s is %d, want %d", c.f, got, c.size)
		}
		if got := impl.SymmetriesOf(f); got != numberOfWays[f.Bits]/c.size {
			t.Errorf("SymmetriesOf %s is %d", c.f, got)
		}
	}
}

// TestAreAlikeHasSameCanonicalTable has all pairs of few variables, with as many variables and with others.
func TestAreAlikeHasSameCanonicalTable(t *testing.T) {
	var l []impl.Table
	for n := range 3 {
		l = append(l, allTables(n)...)
	}
	l = append(l, allTables(3)[100:140]...)
	l = append(l, someTables(4)[:12]...)
	for _, f := range l {
		for _, g := range l {
			want := f.Bits == g.Bits && canonical(t, f) == canonical(t, g)
			if got := impl.AreAlike(f, g); got != want {
				t.Fatalf("AreAlike(%v, %v) = %v", f, g, got)
			}
		}
	}
}

// TestAreAlikeComparesVariables has tables with the same Word and other numbers of variables.
func TestAreAlikeComparesVariables(t *testing.T) {
	for n := range 5 {
		for m := range 5 {
			for w := range 2 {
				f, g := impl.Table{Bits: n, Word: w}, impl.Table{Bits: m, Word: w}
				if got := impl.AreAlike(f, g); got != (n == m) {
					t.Errorf("AreAlike(%v, %v) = %v", f, g, got)
				}
			}
		}
	}
	for _, c := range [][2]string{{"01", "0101"}, {"0110", "01100110"}, {"0111", "0110"}, {"0001", "0000"}, {"00010111", "00000001"}, {"0110100110010110", "0110011001100110"}} {
		f, _ := impl.ParseTable(c[0])
		g, _ := impl.ParseTable(c[1])
		if impl.AreAlike(f, g) || impl.AreAlike(g, f) {
			t.Errorf("%s and %s are alike", c[0], c[1])
		}
	}
}

func TestSymmetriesTimesClassSizeAreAllWays(t *testing.T) {
	for _, f := range fewTables() {
		size, symmetries := impl.ClassSize(f), impl.SymmetriesOf(f)
		if size < 2 || symmetries < 1 || size*symmetries != numberOfWays[f.Bits] {
			t.Fatalf("ClassSize(%v) = %d and SymmetriesOf = %d", f, size, symmetries)
		}
	}
}

// TestClassesAreAllTables adds up the sizes of the classes of all canonical tables of 0 to 3 variables.
func TestClassesAreAllTables(t *testing.T) {
	for n, classes := range []int{1, 2, 4, 14} {
		sum, count := 0, 0
		for _, f := range allTables(n) {
			if canonical(t, f) == f {
				sum += impl.ClassSize(f)
				count++
			}
		}
		if sum != 1<<(1<<n) || count != classes {
			t.Errorf("%d classes of %d variables have %d tables", count, n, sum)
		}
		if got := impl.CountTableClasses(n); got != classes {
			t.Errorf("CountTableClasses(%d) = %d, want %d", n, got, classes)
		}
	}
}

// TestClassesOfFourVariablesAreAllTables goes through the tables by Word: the first that no class before has is the least of its own.
func TestClassesOfFourVariablesAreAllTables(t *testing.T) {
	ways := waysOf(4)
	seen := map[impl.Table]bool{}
	sum, count := 0, 0
	for _, f := range allTables(4) {
		if seen[f] {
			continue
		}
		if got := canonical(t, f); got != f {
			t.Fatalf("CanonicalTable(%v) = %v", f, got)
		}
		before := len(seen)
		for _, w := range ways {
			seen[w.from(f)] = true
		}
		if got := impl.ClassSize(f); got != len(seen)-before {
			t.Fatalf("ClassSize(%v) = %d, want %d", f, got, len(seen)-before)
		}
		sum += impl.ClassSize(f)
		count++
	}
	if sum != 65536 || count != 222 {
		t.Errorf("%d classes of 4 variables have %d tables", count, sum)
	}
}

func TestCountTableClassesRejects(t *testing.T) {
	for _, n := range append(outOfRange, 4, 5, 6, 7) {
		if got := impl.CountTableClasses(n); got != -1 {
			t.Errorf("CountTableClasses(%d) = %d", n, got)
		}
	}
}

func TestPermutationsOfInOrder(t *testing.T) {
	written := [][][]int{
		{{}},
		{{0}},
		{{0, 1}, {1, 0}},
		{{0, 1, 2}, {0, 2, 1}, {1, 0, 2}, {1, 2, 0}, {2, 0, 1}, {2, 1, 0}},
	}
	for n, count := range []int{1, 1, 2, 6, 24} {
		want := orders(n)
		slices.SortFunc(want, slices.Compare[[]int])
		got, ok := impl.PermutationsOf(n)
		if !ok || len(got) != count || !slices.EqualFunc(got, want, slices.Equal[[]int]) {
			t.Errorf("PermutationsOf(%d) = %v, %v, want %v", n, got, ok, want)
		}
		if n < len(written) && !slices.EqualFunc(got, written[n], slices.Equal[[]int]) {
			t.Errorf("PermutationsOf(%d) = %v, want %v", n, got, written[n])
		}
	}
	four, _ := impl.PermutationsOf(4)
	for k, want := range map[int][]int{0: {0, 1, 2, 3}, 1: {0, 1, 3, 2}, 5: {0, 3, 2, 1}, 6: {1, 0, 2, 3}, 9: {1, 2, 3, 0}, 22: {3, 2, 0, 1}, 23: {3, 2, 1, 0}} {
		if len(four) != 24 || !slices.Equal(four[k], want) {
			t.Errorf("the list %d of PermutationsOf(4) is not %v", k, want)
		}
	}
}

func TestPermutationsOfRejects(t *testing.T) {
	for _, n := range append(outOfRange, 5, 6, 7, 10) {
		if l, ok := impl.PermutationsOf(n); ok || len(l) != 0 {
			t.Errorf("PermutationsOf(%d) = %v, %v", n, l, ok)
		}
	}
}

// TestPermutationsOfReturnsNewMemory overwrites each list, with its unused capacity, and compares the other ones and a second result.
func TestPermutationsOfReturnsNewMemory(t *testing.T) {
	for n := range 5 {
		want := orders(n)
		slices.SortFunc(want, slices.Compare[[]int])
		l, _ := impl.PermutationsOf(n)
		for k := range l {
			if !slices.Equal(l[k], want[k]) {
				t.Fatalf("the list %d of PermutationsOf(%d) has become %v", k, n, l[k])
			}
			p := l[k][:cap(l[k])]
			for i := range p {
				p[i] = -7
			}
		}
		if again, ok := impl.PermutationsOf(n); !ok || !slices.EqualFunc(again, want, slices.Equal[[]int]) {
			t.Errorf("PermutationsOf(%d) = %v, %v after the change of a result", n, again, ok)
		}
	}
}

func TestConstantsAreOneClass(t *testing.T) {
	for n := range 5 {
		zero := impl.Table{Bits: n}
		one := impl.Table{Bits: n, Word: 1<<(1<<n) - 1}
		if !impl.AreAlike(zero, one) || !impl.AreAlike(one, zero) {
			t.Errorf("the constants of %d variables are not alike", n)
		}
		for _, f := range []impl.Table{zero, one} {
			if got := canonical(t, f); got != zero {
				t.Errorf("CanonicalTable(%v) = %v", f, got)
			}
			if got := impl.ClassSize(f); got != 2 {
				t.Errorf("ClassSize(%v) = %d", f, got)
			}
			if got := impl.SymmetriesOf(f); got != numberOfWays[n]/2 {
				t.Errorf("SymmetriesOf(%v) = %d", f, got)
			}
		}
		for _, f := range tablesOf(n) {
			if f != zero && f != one && (impl.AreAlike(f, zero) || impl.AreAlike(one, f)) {
				t.Errorf("%v is alike a constant", f)
			}
		}
	}
}

// TestTablesOfNoVariablesAreOneClass has the only way beside the one that changes nothing: the negation.
func TestTablesOfNoVariablesAreOneClass(t *testing.T) {
	for v := range 2 {
		f := impl.Table{Word: v}
		if g, ok := impl.CanonicalTable(f); !ok || g != (impl.Table{}) {
			t.Errorf("CanonicalTable(%v) = %v, %v", f, g, ok)
		}
		if impl.ClassSize(f) != 2 || impl.SymmetriesOf(f) != 1 || !impl.AreAlike(f, impl.Table{Word: 1 - v}) || !impl.AreAlike(f, f) {
			t.Errorf("%v has another class", f)
		}
	}
	if got := impl.CountTableClasses(0); got != 1 {
		t.Errorf("CountTableClasses(0) = %d", got)
	}
	if l, ok := impl.PermutationsOf(0); !ok || len(l) != 1 || len(l[0]) != 0 {
		t.Errorf("PermutationsOf(0) = %v, %v", l, ok)
	}
}

func TestClassesReject(t *testing.T) {
	for _, f := range withoutClass() {
		if g, ok := impl.CanonicalTable(f); ok || g != (impl.Table{}) {
			t.Errorf("CanonicalTable(%v) = %v, %v", f, g, ok)
		}
		if got := impl.ClassSize(f); got != -1 {
			t.Errorf("ClassSize(%v) = %d", f, got)
		}
		if got := impl.SymmetriesOf(f); got != -1 {
			t.Errorf("SymmetriesOf(%v) = %d", f, got)
		}
		if impl.AreAlike(f, f) {
			t.Errorf("AreAlike(%v, %v) is true", f, f)
		}
		for n := range 6 {
			for _, g := range []impl.Table{{Bits: n}, {Bits: n, Word: 1}, {Bits: math.MinInt}} {
				if impl.AreAlike(f, g) || impl.AreAlike(g, f) {
					t.Errorf("AreAlike is true for %v and %v", f, g)
				}
			}
		}
	}
}
