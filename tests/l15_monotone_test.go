package tests

import (
	"math"
	"math/rand"
	"slices"
	"testing"

	"loop.example/g03403/impl"
)

// step is a change of one variable, which is 0 at low and 1 at high.
type step struct{ low, high int }

// stepsOf returns the changes of one variable from 0 to 1 at all inputs of n variables.
func stepsOf(n int) []step {
	var l []step
	for x := range 1 << n {
		for i, b := range bitsOf(n, x) {
			if b == 0 {
				l = append(l, step{low: x, high: changed(n, x, 1<<i)})
			}
		}
	}
	return l
}

func stepsOfAll() [][]step { return ofAll(stepsOf) }

// falls counts the changes of a variable from 0 to 1 that change the value from 1 to 0.
func falls(f impl.Table, steps []step) int {
	l := values(f)
	count := 0
	for _, s := range steps {
		if l[s.low] == 1 && l[s.high] == 0 {
			count++
		}
	}
	return count
}

// withoutSteps returns the inputs with the value b in ascending order, without those that a change leads from to another one with b.
func withoutSteps(f impl.Table, b int, steps []step) []int {
	l := values(f)
	leads := make([]bool, len(l))
	for _, s := range steps {
		if l[s.low] == b && l[s.high] == b {
			// A point is left downwards, and a zero upwards.
			leads[b*s.high+(1-b)*s.low] = true
		}
	}
	var inputs []int
	for x, v := range l {
		if v == b && !leads[x] {
			inputs = append(inputs, x)
		}
	}
	return inputs
}

// hullOf returns the table that is 1 where f is 1 at some input that is a part of it.
func hullOf(f impl.Table, parts [][]int) impl.Table {
	l := values(f)
	hull := make([]int, len(l))
	for x := range l {
		for _, part := range parts[x] {
			hull[x] = max(hull[x], l[part])
		}
	}
	return impl.Table{Bits: f.Bits, Word: inputOf(hull)}
}

// inputsWith returns the inputs with the value b in ascending order.
func inputsWith(f impl.Table, b int) []int {
	var l []int
	for x, v := range values(f) {
		if v == b {
			l = append(l, x)
		}
	}
	return l
}

// opposites returns the inputs of n variables with all bits changed, in ascending order.
func opposites(n int, l []int) []int {
	var out []int
	for _, x := range l {
		out = append(out, changed(n, x, 1<<n-1))
	}
	slices.Sort(out)
	return out
}

// monotoneTables returns the monotone tables of n variables: those whose half for the last variable as 1 is nowhere below the one for 0.
func monotoneTables(n int) []impl.Table {
	if n == 0 {
		return allTables(0)
	}
	halves := monotoneTables(n - 1)
	var l []impl.Table
	for _, low := range halves {
		for _, high := range halves {
			if low.Word&high.Word == low.Word {
				l = append(l, impl.Table{Bits: n, Word: low.Word + high.Word<<(1<<(n-1))})
			}
		}
	}
	return l
}

// numberOfMonotone is, for each number of variables, how many tables are monotone.
var numberOfMonotone = []int{2, 3, 6, 20, 168, 7581}

// nearMonotone returns monotone tables of five variables, each with one value changed.
func nearMonotone() []impl.Table {
	var l []impl.Table
	for k, f := range monotoneTables(5) {
		v := values(f)
		x := k % len(v)
		v[x] = 1 - v[x]
		l = append(l, impl.Table{Bits: 5, Word: inputOf(v)})
	}
	return l
}

// pointTables returns all tables of at most four variables, and of five the monotone ones, those near to them and some others.
func pointTables() []impl.Table {
	return slices.Concat(manyTables(), monotoneTables(5), nearMonotone())
}

func dualTable(t *testing.T, f impl.Table) impl.Table {
	t.Helper()
	g, ok := impl.DualTable(f)
	return tables{t}.checked(g, ok, f.Bits, "DualTable", f)
}

func monotoneHull(t *testing.T, f impl.Table) impl.Table {
	t.Helper()
	g, ok := impl.MonotoneHull(f)
	return tables{t}.checked(g, ok, f.Bits, "MonotoneHull", f)
}

func pointsTable(t *testing.T, n int, l []int) impl.Table {
	t.Helper()
	f, ok := impl.TableOfPoints(n, l)
	return tables{t}.checked(f, ok, n, "TableOfPoints", n, l)
}

// TestIsMonotoneChangeByChange counts the changes that no monotone table has.
func TestIsMonotoneChangeByChange(t *testing.T) {
	steps := stepsOfAll()
	seen := map[impl.Table]bool{}
	counts := make([]int, impl.MaxBits+1)
	for _, f := range pointTables() {
		fallen := falls(f, steps[f.Bits])
		if got := impl.IsMonotone(f); got != (fallen == 0) {
			t.Fatalf("IsMonotone(%v) = %v, and %d changes lead from 1 to 0", f, got, fallen)
		}
		if fallen == 0 && !seen[f] {
			seen[f] = true
			counts[f.Bits]++
		}
	}
	if !slices.Equal(counts, numberOfMonotone) {
		t.Errorf("IsMonotone holds for %v tables, want %v", counts, numberOfMonotone)
	}
}

// TestIsMonotoneLessOneChange has tables with a single change that leads from 1 to 0, at each input and variable.
func TestIsMonotoneLessOneChange(t *testing.T) {
	for n, steps := range stepsOfAll() {
		for _, s := range steps {
			// All above the higher input are 1, and of the others only the lower one.
			f := tableOf(n, func(bits []int) int {
				x := inputOf(bits)
				if x == s.low || x != s.high && isPart(s.low, x) {
					return 1
				}
				return 0
			})
			if fallen := falls(f, steps); (fallen == 0) != impl.IsMonotone(f) || fallen != 1 {
				t.Fatalf("IsMonotone(%v) = %v, and %d changes lead from 1 to 0", f, impl.IsMonotone(f), fallen)
			}
		}
	}
}

func TestPointsInputByInput(t *testing.T) {
	steps := stepsOfAll()
	for _, f := range pointTables() {
		if got, want := impl.MinimalPoints(f), withoutSteps(f, 1, steps[f.Bits]); !slices.Equal(got, want) {
			t.Fatalf("MinimalPoints(%v) = %v, want %v", f, got, want)
		}
		if got, want := impl.MaximalZeros(f), withoutSteps(f, 0, steps[f.Bits]); !slices.Equal(got, want) {
			t.Fatalf("MaximalZeros(%v) = %v, want %v", f, got, want)
		}
	}
}

// TestMinimalPointsGiveTables has the first half of promise 13.
func TestMinimalPointsGiveTables(t *testing.T) {
	for n, number := range numberOfMonotone {
		l := monotoneTables(n)
		if len(l) != number {
			t.Fatalf("there are %d monotone tables of %d variables", len(l), n)
		}
		for _, f := range l {
			points := impl.MinimalPoints(f)
			if got := pointsTable(t, n, points); got != f {
				t.Fatalf("TableOfPoints(%d, %v) = %v, want %v", n, points, got, f)
			}
			for k, x := range points {
				if slices.ContainsFunc(points[:k], func(y int) bool { return isPart(y, x) }) {
					t.Fatalf("MinimalPoints(%v) = %v", f, points)
				}
			}
		}
	}
}

// TestMinimalPointsOfAllTables has that they give the hull, as each input with 1 has one of them below it.
func TestMinimalPointsOfAllTables(t *testing.T) {
	for _, f := range pointTables() {
		points := impl.MinimalPoints(f)
		if got := pointsTable(t, f.Bits, points); got != monotoneHull(t, f) {
			t.Fatalf("TableOfPoints(%d, %v) = %v, MonotoneHull(%v) = %v", f.Bits, points, got, f, monotoneHull(t, f))
		}
		if (len(points) == 0) != (f.Word == 0) {
			t.Fatalf("MinimalPoints(%v) = %v", f, points)
		}
	}
}

// TestPrimesOfMonotoneTables has that they are the terms of the minimal points, without a negation.
func TestPrimesOfMonotoneTables(t *testing.T) {
	for n := range impl.MaxBits {
		for _, f := range monotoneTables(n) {
			var want []impl.Term
			for _, x := range impl.MinimalPoints(f) {
				want = append(want, impl.Term{Mask: x, Value: x})
			}
			if got := primesOf(t, f); !slices.Equal(got, want) {
				t.Fatalf("PrimesOf(%v) = %v, want %v", f, got, want)
			}
		}
	}
}

// TestDualTableExchangesPointsAndZeros has the second half of promise 13.
func TestDualTableExchangesPointsAndZeros(t *testing.T) {
	for _, f := range pointTables() {
		g := dualTable(t, f)
		for b := range 2 {
			if got, want := inputsWith(g, b), opposites(f.Bits, inputsWith(f, 1-b)); !slices.Equal(got, want) {
				t.Fatalf("DualTable(%v) = %v is %d at %v, want %v", f, g, b, got, want)
			}
		}
		if got, want := impl.MinimalPoints(g), opposites(f.Bits, impl.MaximalZeros(f)); !slices.Equal(got, want) {
			t.Fatalf("MinimalPoints(%v) = %v, want %v", g, got, want)
		}
		if got, want := impl.MaximalZeros(g), opposites(f.Bits, impl.MinimalPoints(f)); !slices.Equal(got, want) {
			t.Fatalf("MaximalZeros(%v) = %v, want %v", g, got, want)
		}
		if back := dualTable(t, g); back != f {
			t.Fatalf("DualTable(%v) = %v, DualTable of it = %v", f, g, back)
		}
		if impl.IsMonotone(g) != impl.IsMonotone(f) {
			t.Fatalf("IsMonotone(%v) = %v, IsMonotone(%v) = %v", f, impl.IsMonotone(f), g, impl.IsMonotone(g))
		}
	}
}

// TestDualTableOfDualFormula has the duals of chapter 5.
func TestDualTableOfDualFormula(t *testing.T) {
	for _, s := range someFormulas() {
		dual, ok := impl.DualFormula(s)
		if !ok {
			continue
		}
		f, g := formulaTable(t, s, impl.MaxBits), formulaTable(t, dual, impl.MaxBits)
		if got := dualTable(t, f); got != g {
			t.Fatalf("DualTable(%v) = %v, want %v, of %q and %q", f, got, g, s, dual)
		}
	}
}

// TestDualTableExchangesAndWithOr has what a dual does to a negation and to both connections.
func TestDualTableExchangesAndWithOr(t *testing.T) {
	not, and, or, _ := algebra(t)
	for n := range impl.MaxBits + 1 {
		for _, p := range somePairs(n) {
			dualF, dualG := dualTable(t, p.f), dualTable(t, p.g)
			if dualTable(t, and(p.f, p.g)) != or(dualF, dualG) || dualTable(t, or(p.f, p.g)) != and(dualF, dualG) {
				t.Fatalf("the duals of %v and %v are %v and %v", p.f, p.g, dualF, dualG)
			}
			if dualTable(t, not(p.f)) != not(dualF) {
				t.Fatalf("DualTable(%v) = %v, and of the negation %v", p.f, dualF, dualTable(t, not(p.f)))
			}
		}
	}
}

func TestDualTableOfVariables(t *testing.T) {
	for n := range impl.MaxBits + 1 {
		for i := range n {
			f, _ := impl.VariableTable(n, i)
			if dualTable(t, f) != f || !impl.IsSelfDual(f) {
				t.Fatalf("DualTable(%v) = %v, IsSelfDual = %v", f, dualTable(t, f), impl.IsSelfDual(f))
			}
		}
	}
}

// TestIsSelfDualComparesDual has also how many tables are their own dual: one value is free for each two opposite inputs.
func TestIsSelfDualComparesDual(t *testing.T) {
	counts := make([]int, impl.MaxBits)
	for _, f := range pointTables() {
		got := impl.IsSelfDual(f)
		if got != (dualTable(t, f) == f) {
			t.Fatalf("IsSelfDual(%v) = %v, DualTable = %v", f, got, dualTable(t, f))
		}
		l := values(f)
		for x := range l {
			if y := changed(f.Bits, x, len(l)-1); got && l[x] == l[y] {
				t.Fatalf("IsSelfDual(%v) = true, with the same value at %d and %d", f, x, y)
			}
		}
		if got && f.Bits < len(counts) {
			counts[f.Bits]++
		}
	}
	if want := []int{0, 2, 4, 16, 256}; !slices.Equal(counts, want) {
		t.Errorf("%v tables are their own duals, want %v", counts, want)
	}
}

// TestIsSelfDualOfFive has tables of five variables that are their own duals, and not so with one value changed.
func TestIsSelfDualOfFive(t *testing.T) {
	for _, half := range allTables(4)[:1<<10] {
		lower := values(half)
		upper := make([]int, len(lower))
		for x, v := range lower {
			upper[len(upper)-1-x] = 1 - v
		}
		all := append(lower, upper...)
		if f := (impl.Table{Bits: 5, Word: inputOf(all)}); !impl.IsSelfDual(f) {
			t.Fatalf("IsSelfDual(%v) = false", f)
		}
		x := half.Word % len(all)
		all[x] = 1 - all[x]
		if f := (impl.Table{Bits: 5, Word: inputOf(all)}); impl.IsSelfDual(f) {
			t.Fatalf("IsSelfDual(%v) = true", f)
		}
	}
}

// checkCount compares the numbers with the tables for which holds is true, and with the count for as many variables; for any more or less there is none.
func checkCount(t *testing.T, count func(n int) int, holds func(f impl.Table) bool, numbers []int) {
	t.Helper()
	for n, number := range numbers {
		held := 0
		for _, f := range allTables(n) {
			if holds(f) {
				held++
			}
		}
		if got := count(n); got != number || held != number {
			t.Errorf("the count of %d variables is %d, and %d tables hold, want %d", n, got, held, number)
		}
	}
	for _, n := range append(farNumbers(), variablesAround(len(numbers))...) {
		if got := count(n); got != -1 {
			t.Errorf("the count of %d variables is %d", n, got)
		}
	}
}

func TestCountMonotoneCountsTables(t *testing.T) {
	checkCount(t, impl.CountMonotone, impl.IsMonotone, numberOfMonotone[:5])
}

func TestMonotoneHullIsAbovePoints(t *testing.T) {
	parts := partsOfAll()
	for _, f := range pointTables() {
		if got, want := monotoneHull(t, f), hullOf(f, parts[f.Bits]); got != want {
			t.Fatalf("MonotoneHull(%v) = %v, want %v", f, got, want)
		}
	}
}

// TestMonotoneHullIsLeast compares with all monotone tables of as many variables.
func TestMonotoneHullIsLeast(t *testing.T) {
	for n, above := range ofAll(monotoneTables) {
		for _, f := range tablesOf(n) {
			hull := monotoneHull(t, f)
			if !impl.IsMonotone(hull) || f.Word&hull.Word != f.Word {
				t.Fatalf("MonotoneHull(%v) = %v, IsMonotone of it = %v", f, hull, impl.IsMonotone(hull))
			}
			for _, g := range above {
				if f.Word&g.Word == f.Word && (impl.CountOnes(g) < impl.CountOnes(hull) || hull.Word&g.Word != hull.Word) {
					t.Fatalf("MonotoneHull(%v) = %v, and %v is above as well", f, hull, g)
				}
			}
		}
	}
}

func TestMonotoneHullOfMonotoneTables(t *testing.T) {
	for n := range impl.MaxBits + 1 {
		for _, f := range monotoneTables(n) {
			if got := monotoneHull(t, f); got != f {
				t.Fatalf("MonotoneHull(%v) = %v", f, got)
			}
		}
	}
	for _, f := range pointTables() {
		hull := monotoneHull(t, f)
		if (hull == f) != impl.IsMonotone(f) || monotoneHull(t, hull) != hull {
			t.Fatalf("MonotoneHull(%v) = %v, and of it %v, IsMonotone = %v", f, hull, monotoneHull(t, hull), impl.IsMonotone(f))
		}
	}
}

func TestMonotoneHullOfOr(t *testing.T) {
	_, _, or, _ := algebra(t)
	for n := range impl.MaxBits + 1 {
		for _, p := range somePairs(n) {
			if got, want := monotoneHull(t, or(p.f, p.g)), or(monotoneHull(t, p.f), monotoneHull(t, p.g)); got != want {
				t.Fatalf("MonotoneHull of %v or %v = %v, want %v", p.f, p.g, got, want)
			}
		}
	}
}

// TestTableOfPointsIsHull has the inputs with 1 of each table as points.
func TestTableOfPointsIsHull(t *testing.T) {
	parts := partsOfAll()
	for _, f := range pointTables() {
		if got, want := pointsTable(t, f.Bits, inputsWith(f, 1)), hullOf(f, parts[f.Bits]); got != want {
			t.Fatalf("TableOfPoints(%d, %v) = %v, want %v", f.Bits, inputsWith(f, 1), got, want)
		}
	}
}

// TestTableOfPointsInAnyOrder has points backwards, in an order left to chance, and twice.
func TestTableOfPointsInAnyOrder(t *testing.T) {
	r := rand.New(rand.NewSource(15))
	for _, f := range append(sampleTables(), monotoneTables(4)...) {
		points := inputsWith(f, 1)
		want := pointsTable(t, f.Bits, points)
		for _, l := range [][]int{points, impl.MinimalPoints(f)} {
			backwards, twice, mixed := slices.Clone(l), slices.Repeat(l, 2), slices.Repeat(l, 3)
			slices.Reverse(backwards)
			r.Shuffle(len(mixed), func(i, j int) { mixed[i], mixed[j] = mixed[j], mixed[i] })
			for _, given := range [][]int{backwards, twice, mixed, slices.Concat(backwards, l), slices.Repeat(l, 70)} {
				if got := pointsTable(t, f.Bits, given); got != want {
					t.Fatalf("TableOfPoints(%d, %v) = %v, want %v", f.Bits, given, got, want)
				}
			}
		}
	}
}

// TestTableOfPointsOfVariables has a point for each variable, in each order, which together are the or of all.
func TestTableOfPointsOfVariables(t *testing.T) {
	for n := range impl.MaxBits + 1 {
		want := impl.Table{Bits: n, Word: 1<<(1<<n) - 2}
		for _, p := range orders(n) {
			var l []int
			for _, i := range p {
				l = append(l, 1<<i)
			}
			if got := pointsTable(t, n, l); got != want {
				t.Fatalf("TableOfPoints(%d, %v) = %v, want %v", n, l, got, want)
			}
		}
	}
}

// TestTableOfOnePoint has the inputs that have all variables of the point.
func TestTableOfOnePoint(t *testing.T) {
	for n := range impl.MaxBits + 1 {
		for x := range 1 << n {
			want := tableOf(n, func(bits []int) int {
				if isPart(x, inputOf(bits)) {
					return 1
				}
				return 0
			})
			if got := pointsTable(t, n, []int{x}); got != want {
				t.Fatalf("TableOfPoints(%d, %d) = %v, want %v", n, x, got, want)
			}
			if got := impl.MinimalPoints(want); !slices.Equal(got, []int{x}) {
				t.Fatalf("MinimalPoints(%v) = %v, want %d", want, got, x)
			}
		}
	}
}

func TestTableOfNoPoints(t *testing.T) {
	for n := range impl.MaxBits + 1 {
		for _, l := range [][]int{nil, {}, make([]int, 0, 8)} {
			if got := pointsTable(t, n, l); got != (impl.Table{Bits: n}) {
				t.Errorf("TableOfPoints(%d, %v) = %v", n, l, got)
			}
		}
	}
}

// TestMonotoneConstants has the constant 1 of none to five variables, and the constant 0 beside it.
func TestMonotoneConstants(t *testing.T) {
	for n := range impl.MaxBits + 1 {
		zero, one := impl.Table{Bits: n}, impl.Table{Bits: n, Word: 1<<(1<<n) - 1}
		for _, f := range []impl.Table{zero, one} {
			if !impl.IsMonotone(f) || impl.IsSelfDual(f) || monotoneHull(t, f) != f {
				t.Errorf("IsMonotone(%v) = %v, IsSelfDual = %v, MonotoneHull = %v", f, impl.IsMonotone(f), impl.IsSelfDual(f), monotoneHull(t, f))
			}
		}
		if dualTable(t, one) != zero || dualTable(t, zero) != one {
			t.Errorf("DualTable(%v) = %v, DualTable(%v) = %v", one, dualTable(t, one), zero, dualTable(t, zero))
		}
		if l := impl.MinimalPoints(one); !slices.Equal(l, []int{0}) {
			t.Errorf("MinimalPoints(%v) = %v", one, l)
		}
		if l := impl.MaximalZeros(one); len(l) != 0 {
			t.Errorf("MaximalZeros(%v) = %v", one, l)
		}
		if l := impl.MinimalPoints(zero); len(l) != 0 {
			t.Errorf("MinimalPoints(%v) = %v", zero, l)
		}
		if l := impl.MaximalZeros(zero); !slices.Equal(l, []int{1<<n - 1}) {
			t.Errorf("MaximalZeros(%v) = %v", zero, l)
		}
		if got := pointsTable(t, n, []int{0}); got != one {
			t.Errorf("TableOfPoints(%d, 0) = %v", n, got)
		}
	}
}

func TestMonotoneFunctionsByHand(t *testing.T) {
	for _, c := range []struct {
		text          string
		monotone      bool
		points, zeros []int
		dual, hull    string
	}{
		{"0", true, nil, []int{0}, "1", "0"},
		{"1", true, []int{0}, nil, "0", "1"},
		{"01", true, []int{1}, []int{0}, "01", "01"},
		{"10", false, []int{0}, []int{1}, "10", "11"},
		{"0001", true, []int{3}, []int{1, 2}, "0111", "0001"},
		{"0111", true, []int{1, 2}, []int{0}, "0001", "0111"},
		{"0110", false, []int{1, 2}, []int{0, 3}, "1001", "0111"},
		{"1001", false, []int{0, 3}, []int{1, 2}, "0110", "1111"},
		{"0100", false, []int{1}, []int{3}, "1101", "0101"},
		{"0010", false, []int{2}, []int{3}, "1011", "0011"},
		{"1000", false, []int{0}, []int{3}, "1110", "1111"},
		{"00010111", true, []int{3, 5, 6}, []int{1, 2, 4}, "00010111", "00010111"},
		{"00010101", true, []int{3, 5}, []int{1, 6}, "01010111", "00010101"},
		{"01101001", false, []int{1, 2, 4, 7}, []int{0, 3, 5, 6}, "01101001", "01111111"},
		{"00010000", false, []int{3}, []int{7}, "11110111", "00010001"},
		{"0000000000000001", true, []int{15}, []int{7, 11, 13, 14}, "0111111111111111", "0000000000000001"},
		{"0000000100010110", false, []int{7, 11, 13, 14}, []int{3, 5, 6, 9, 10, 12, 15}, "1001011101111111", "0000000100010111"},
	} {
		f, _ := impl.ParseTable(c.text)
		if got := impl.IsMonotone(f); got != c.monotone {
			t.Errorf("IsMonotone of %s = %v", c.text, got)
		}
		if got := impl.MinimalPoints(f); !slices.Equal(got, c.points) {
			t.Errorf("MinimalPoints of %s = %v, want %v", c.text, got, c.points)
		}
		if got := impl.MaximalZeros(f); !slices.Equal(got, c.zeros) {
			t.Errorf("MaximalZeros of %s = %v, want %v", c.text, got, c.zeros)
		}
		if got := impl.FormatTable(dualTable(t, f)); got != c.dual {
			t.Errorf("DualTable of %s = %s, want %s", c.text, got, c.dual)
		}
		if got := impl.IsSelfDual(f); got != (c.dual == c.text) {
			t.Errorf("IsSelfDual of %s = %v", c.text, got)
		}
		if got := impl.FormatTable(monotoneHull(t, f)); got != c.hull {
			t.Errorf("MonotoneHull of %s = %s, want %s", c.text, got, c.hull)
		}
	}
}

// permutedInputs returns the inputs with their variables permuted, in ascending order.
func permutedInputs(l []int, p []int) []int {
	var out []int
	for _, x := range l {
		out = append(out, permuted(x, p))
	}
	slices.Sort(out)
	return out
}

func TestMonotoneFunctionsOfPermutations(t *testing.T) {
	s := tables{t}
	for n := range impl.MaxBits + 1 {
		for _, f := range append(tablesOf(n)[:min(1<<(1<<n), 40)], monotoneTables(n)[:min(numberOfMonotone[n], 40)]...) {
			for _, p := range orders(n) {
				g := s.permute(f, p)
				if got, want := impl.MinimalPoints(g), permutedInputs(impl.MinimalPoints(f), p); !slices.Equal(got, want) {
					t.Fatalf("MinimalPoints(%v) = %v, want %v", g, got, want)
				}
				if got, want := impl.MaximalZeros(g), permutedInputs(impl.MaximalZeros(f), p); !slices.Equal(got, want) {
					t.Fatalf("MaximalZeros(%v) = %v, want %v", g, got, want)
				}
				if impl.IsMonotone(g) != impl.IsMonotone(f) || impl.IsSelfDual(g) != impl.IsSelfDual(f) {
					t.Fatalf("IsMonotone(%v) = %v, IsSelfDual = %v, of %v", g, impl.IsMonotone(g), impl.IsSelfDual(g), f)
				}
				if dualTable(t, g) != s.permute(dualTable(t, f), p) || monotoneHull(t, g) != s.permute(monotoneHull(t, f), p) {
					t.Fatalf("DualTable(%v) = %v, MonotoneHull = %v, of %v", g, dualTable(t, g), monotoneHull(t, g), f)
				}
			}
		}
	}
}

// TestMonotoneFunctionsOfUselessVariables adds a variable that does not matter at each place.
func TestMonotoneFunctionsOfUselessVariables(t *testing.T) {
	s := tables{t}
	for n := range impl.MaxBits {
		for _, f := range tablesOf(n) {
			for i := range n + 1 {
				g := s.join(f, f, i)
				var points, zeros []int
				for _, x := range impl.MinimalPoints(f) {
					points = append(points, withBit(n, x, i, 0))
				}
				for _, x := range impl.MaximalZeros(f) {
					zeros = append(zeros, withBit(n, x, i, 1))
				}
				if a, b := impl.MinimalPoints(g), impl.MaximalZeros(g); !slices.Equal(a, points) || !slices.Equal(b, zeros) {
					t.Fatalf("MinimalPoints(%v) = %v, MaximalZeros = %v, want %v and %v", g, a, b, points, zeros)
				}
				dual, hull := dualTable(t, f), monotoneHull(t, f)
				if dualTable(t, g) != s.join(dual, dual, i) || monotoneHull(t, g) != s.join(hull, hull, i) {
					t.Fatalf("DualTable(%v) = %v, MonotoneHull = %v, of %v", g, dualTable(t, g), monotoneHull(t, g), f)
				}
			}
		}
	}
}

func TestPointsAreNewLists(t *testing.T) {
	checkNewLists(t, func(_ *testing.T, f impl.Table) []int { return impl.MinimalPoints(f) })
	checkNewLists(t, func(_ *testing.T, f impl.Table) []int { return impl.MaximalZeros(f) })
}

// TestTableOfPointsKeepsList has lists with points behind them in the same memory, which do not count.
func TestTableOfPointsKeepsList(t *testing.T) {
	for n := range impl.MaxBits + 1 {
		all := inputsOf(n)
		slices.Reverse(all)
		given := slices.Concat(all, []int{1 << n, -1, 0})
		want := slices.Clone(given)
		for k := range len(all) + 1 {
			if got, alone := pointsTable(t, n, given[:k]), pointsTable(t, n, slices.Clone(all[:k])); got != alone {
				t.Fatalf("TableOfPoints(%d, %v) = %v, with more behind it %v", n, all[:k], alone, got)
			}
			if !slices.Equal(given, want) {
				t.Fatalf("TableOfPoints(%d, %v) leaves %v", n, all[:k], given)
			}
		}
		for k := range given {
			impl.TableOfPoints(n, given[k:])
			if !slices.Equal(given, want) {
				t.Fatalf("TableOfPoints(%d, %v) leaves %v", n, want[k:], given)
			}
		}
	}
}

func TestMonotoneFunctionsAtTheSameTime(t *testing.T) {
	l := slices.Concat(someTables(4), someTables(5), monotoneTables(5)[3000:3100])
	hulls, points := make([]impl.Table, len(l)), make([][]int, len(l))
	for k, f := range l {
		hulls[k], points[k] = monotoneHull(t, f), impl.MinimalPoints(f)
	}
	checkAtTheSameTime(t, l, func(k int) bool {
		hull, _ := impl.MonotoneHull(l[k])
		given, _ := impl.TableOfPoints(l[k].Bits, points[k])
		return hull == hulls[k] && given == hulls[k] && slices.Equal(impl.MinimalPoints(l[k]), points[k]) && impl.CountMonotone(2) == 6
	})
}

func TestMonotoneFunctionsRejectTables(t *testing.T) {
	for _, f := range notTables() {
		if impl.IsMonotone(f) || impl.IsSelfDual(f) {
			t.Errorf("IsMonotone(%v) = %v, IsSelfDual = %v", f, impl.IsMonotone(f), impl.IsSelfDual(f))
		}
		if a, b := impl.MinimalPoints(f), impl.MaximalZeros(f); len(a) != 0 || len(b) != 0 {
			t.Errorf("MinimalPoints(%v) = %v, MaximalZeros = %v", f, a, b)
		}
		if g, ok := impl.DualTable(f); ok || g != (impl.Table{}) {
			t.Errorf("DualTable(%v) = %v, %v", f, g, ok)
		}
		if g, ok := impl.MonotoneHull(f); ok || g != (impl.Table{}) {
			t.Errorf("MonotoneHull(%v) = %v, %v", f, g, ok)
		}
	}
}

func checkNoPoints(t *testing.T, n int, l []int) {
	t.Helper()
	if f, ok := impl.TableOfPoints(n, l); ok || f != (impl.Table{}) {
		t.Fatalf("TableOfPoints(%d, %v) = %v, %v", n, l, f, ok)
	}
}

// TestTableOfPointsRejectsBits has numbers of variables out of range, without points and with such as others would have.
func TestTableOfPointsRejectsBits(t *testing.T) {
	for _, n := range append(farNumbers(), variablesAround(6)...) {
		for _, l := range [][]int{nil, {}, {0}, {1}, {31}, {32}, {63}, {-1}, {n}, {-n}, {0, 1, 2, 3}} {
			checkNoPoints(t, n, l)
		}
	}
}

// TestTableOfPointsRejectsPoints has points below 0 and with a bit that is no variable, alone, before and behind points that are inputs.
func TestTableOfPointsRejectsPoints(t *testing.T) {
	for n := range impl.MaxBits + 1 {
		wrong := append(farNumbers(), append(variablesAround(1<<n), 1<<n, 1<<n+1, 2<<n-1, 2<<n, math.MinInt+1<<n-1)...)
		for i := n; i < 64; i++ {
			for x := range 1 << n {
				wrong = append(wrong, x+1<<i, x-1<<i)
			}
		}
		all := inputsOf(n)
		for _, x := range wrong {
			checkNoPoints(t, n, []int{x})
			checkNoPoints(t, n, []int{x, 0})
			checkNoPoints(t, n, []int{0, x})
			checkNoPoints(t, n, []int{x, x})
			checkNoPoints(t, n, slices.Concat(all, []int{x}))
			checkNoPoints(t, n, slices.Concat([]int{x}, all))
			checkNoPoints(t, n, slices.Insert(slices.Clone(all), len(all)/2, x))
		}
	}
}
