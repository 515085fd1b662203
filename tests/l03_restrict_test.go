package tests

import (
	"math"
	"math/rand"
	"slices"
	"strings"
	"testing"

	"loop.example/g03403/impl"
)

// outOfRange are never a variable, an input, a set of variables or 0 or 1.
var outOfRange = []int{math.MinInt, math.MinInt + 1, -1 << 32, -64, -2, -1, 32, 33, 63, 64, 65, 1 << 32, 1 << 62, math.MaxInt}

// tablesOf returns all tables of n variables, or some of them for more than 3.
func tablesOf(n int) []impl.Table {
	if n > 3 {
		return someTables(n)
	}
	return allTables(n)
}

// bitsOf returns the variables of an input of n variables.
func bitsOf(n, x int) []int {
	l := make([]int, n)
	for i := range l {
		l[i] = x / (1 << i) % 2
	}
	return l
}

// inputOf returns the input with these variables.
func inputOf(bits []int) int {
	x := 0
	for i, b := range bits {
		x += b * (1 << i)
	}
	return x
}

// tableOf returns the table of n variables with these values.
func tableOf(n int, value func(bits []int) int) impl.Table {
	f := impl.Table{Bits: n}
	for x := range 1 << n {
		f.Word += value(bitsOf(n, x)) * (1 << x)
	}
	return f
}

// valueOf returns the value of f at the input with these variables, by the definition of Word.
func valueOf(f impl.Table, bits []int) int {
	return values(f)[inputOf(bits)]
}

// matters reports whether there is an input at which the change of variable i changes the value.
func matters(f impl.Table, i int) bool {
	for x, v := range values(f) {
		bits := bitsOf(f.Bits, x)
		bits[i] = 1 - bits[i]
		if valueOf(f, bits) != v {
			return true
		}
	}
	return false
}

// mattering returns the variables that matter.
func mattering(f impl.Table) []int {
	var l []int
	for i := range f.Bits {
		if matters(f, i) {
			l = append(l, i)
		}
	}
	return l
}

// tables returns functions of chapter 3 that fail the test where those return false.
type tables struct{ t *testing.T }

func (s tables) checked(f impl.Table, ok bool, n int, name string, from ...any) impl.Table {
	if !ok || !impl.IsTable(f) || f.Bits != n {
		s.t.Fatalf("%s%v = %v, %v", name, from, f, ok)
	}
	return f
}

func (s tables) restrict(f impl.Table, i, b int) impl.Table {
	g, ok := impl.RestrictTable(f, i, b)
	return s.checked(g, ok, f.Bits-1, "RestrictTable", f, i, b)
}

func (s tables) join(f, g impl.Table, i int) impl.Table {
	h, ok := impl.JoinTables(f, g, i)
	return s.checked(h, ok, f.Bits+1, "JoinTables", f, g, i)
}

func (s tables) permute(f impl.Table, p []int) impl.Table {
	g, ok := impl.PermuteTable(f, p)
	return s.checked(g, ok, f.Bits, "PermuteTable", f, p)
}

func (s tables) shift(f impl.Table, x int) impl.Table {
	g, ok := impl.ShiftTable(f, x)
	return s.checked(g, ok, f.Bits, "ShiftTable", f, x)
}

func (s tables) reduce(f impl.Table) impl.Table {
	g, ok := impl.ReduceTable(f)
	return s.checked(g, ok, len(mattering(f)), "ReduceTable", f)
}

// orders returns the lists that contain each number from 0 up to n once.
func orders(n int) [][]int {
	l := [][]int{nil}
	for k := range n {
		var next [][]int
		for _, p := range l {
			for place := range k + 1 {
				next = append(next, slices.Insert(slices.Clone(p), place, k))
			}
		}
		l = next
	}
	return l
}

func TestRestrictTableFixesVariable(t *testing.T) {
	for _, f := range sampleTables() {
		for i := range f.Bits {
			for b := range 2 {
				want := tableOf(f.Bits-1, func(bits []int) int { return valueOf(f, slices.Insert(bits, i, b)) })
				if got := (tables{t}).restrict(f, i, b); got != want {
					t.Fatalf("RestrictTable(%v, %d, %d) = %v, want %v", f, i, b, got, want)
				}
			}
		}
	}
}

// TestRestrictTableMovesVariables fixes two variables in both orders: the one after the other moves down by one.
func TestRestrictTableMovesVariables(t *testing.T) {
	s := tables{t}
	for _, f := range sampleTables() {
		for i := range f.Bits {
			for j := i + 1; j < f.Bits; j++ {
				for bs := range 4 {
					b, c := bs%2, bs/2
					if s.restrict(s.restrict(f, j, c), i, b) != s.restrict(s.restrict(f, i, b), j-1, c) {
						t.Fatalf("variables %d and %d of %v are not fixed alike in both orders", i, j, f)
					}
				}
			}
		}
	}
	for i := range 5 {
		v, _ := impl.VariableTable(5, i)
		for j := range 5 {
			want := impl.Table{Bits: 4, Word: 1<<16 - 1}
			if j != i {
				place := i
				if j < i {
					place--
				}
				want, _ = impl.VariableTable(4, place)
			}
			if got := s.restrict(v, j, 1); got != want {
				t.Errorf("RestrictTable(%v, %d, 1) = %v, want %v", v, j, got, want)
			}
		}
	}
}

func TestRestrictTableRejects(t *testing.T) {
	reject := func(f impl.Table, i, b int) {
		if g, ok := impl.RestrictTable(f, i, b); ok || g != (impl.Table{}) {
			t.Errorf("RestrictTable(%v, %d, %d) = %v, %v", f, i, b, g, ok)
		}
	}
	for n := range impl.MaxBits + 1 {
		for _, f := range someTables(n)[:6] {
			for _, i := range append(outOfRange, n, n+1, 5, 6) {
				reject(f, i, 0)
				reject(f, i, 1)
			}
			for i := range n {
				for _, b := range append(outOfRange, 2, 3) {
					reject(f, i, b)
				}
			}
		}
	}
	for _, f := range notTables() {
		for _, i := range []int{-1, 0, 1, 4, 5, 6, 63, 64} {
			for _, b := range []int{-1, 0, 1, 2} {
				reject(f, i, b)
			}
		}
	}
}

func TestRestrictedTablesAreJoinedAgain(t *testing.T) {
	s := tables{t}
	for _, f := range append(sampleTables(), allTables(4)...) {
		for i := range f.Bits {
			if got := s.join(s.restrict(f, i, 0), s.restrict(f, i, 1), i); got != f {
				t.Fatalf("JoinTables for variable %d of %v gives %v", i, f, got)
			}
		}
	}
}

func TestJoinedTablesAreRestrictedAgain(t *testing.T) {
	s := tables{t}
	for n := range impl.MaxBits {
		l := someTables(n)
		if n < 3 {
			l = allTables(n)
		}
		for _, f := range l {
			for _, g := range l {
				for i := range n + 1 {
					h := s.join(f, g, i)
					if s.restrict(h, i, 0) != f || s.restrict(h, i, 1) != g {
						t.Fatalf("JoinTables(%v, %v, %d) = %v", f, g, i, h)
					}
				}
			}
		}
	}
}

func TestJoinTablesRejects(t *testing.T) {
	reject := func(f, g impl.Table, i int) {
		if h, ok := impl.JoinTables(f, g, i); ok || h != (impl.Table{}) {
			t.Errorf("JoinTables(%v, %v, %d) = %v, %v", f, g, i, h, ok)
		}
	}
	for n := range impl.MaxBits + 1 {
		for _, f := range someTables(n)[:4] {
			for _, i := range append(outOfRange, n+1, n+2, 6) {
				reject(f, f, i)
			}
			for m := range impl.MaxBits + 1 {
				for _, g := range someTables(m)[:4] {
					for i := range 7 {
						if n != m || n == impl.MaxBits {
							reject(f, g, i)
						}
					}
				}
			}
		}
	}
	for _, f := range notTables() {
		for i := range 7 {
			reject(f, f, i)
			for n := range impl.MaxBits + 1 {
				reject(f, impl.Table{Bits: n}, i)
				reject(impl.Table{Bits: n, Word: 1}, f, i)
			}
		}
	}
}

func TestDependsOnVariablesThatMatter(t *testing.T) {
	for _, f := range append(sampleTables(), allTables(4)...) {
		for i := range f.Bits {
			if d := impl.DependsOn(f, i); d != matters(f, i) {
				t.Fatalf("DependsOn(%v, %d) = %v", f, i, d)
			}
		}
		if l := impl.VariablesOf(f); !slices.Equal(l, mattering(f)) {
			t.Fatalf("VariablesOf(%v) = %v, want %v", f, l, mattering(f))
		}
	}
	for i := range 5 {
		v, _ := impl.VariableTable(5, i)
		if l := impl.VariablesOf(v); !slices.Equal(l, []int{i}) {
			t.Errorf("VariablesOf(%v) = %v, want %d", v, l, i)
		}
	}
	if l := impl.VariablesOf(impl.Table{Bits: 5, Word: 1 << 31}); !slices.Equal(l, []int{0, 1, 2, 3, 4}) {
		t.Errorf("the and of five variables depends on %v", l)
	}
}

func TestDependsOnRejects(t *testing.T) {
	for n := range impl.MaxBits + 1 {
		for _, f := range someTables(n) {
			for _, i := range append(outOfRange, n, n+1, 5, 6) {
				if impl.DependsOn(f, i) {
					t.Errorf("DependsOn(%v, %d) is true", f, i)
				}
			}
		}
	}
	for _, f := range notTables() {
		for _, i := range []int{math.MinInt, -1, 0, 1, 4, 5, 6, 64, math.MaxInt} {
			if impl.DependsOn(f, i) {
				t.Errorf("DependsOn(%v, %d) is true", f, i)
			}
		}
		if l := impl.VariablesOf(f); len(l) != 0 {
			t.Errorf("VariablesOf(%v) = %v", f, l)
		}
	}
}

// TestVariablesOfReturnsNewMemory overwrites one result, with its unused capacity, and asks again.
func TestVariablesOfReturnsNewMemory(t *testing.T) {
	f := impl.Table{Bits: 5, Word: 1 << 31}
	want := []int{0, 1, 2, 3, 4}
	l := impl.VariablesOf(f)
	l = l[:cap(l)]
	for k := range l {
		l[k] = -7
	}
	if got := impl.VariablesOf(f); !slices.Equal(got, want) {
		t.Errorf("VariablesOf(%v) = %v, want %v", f, got, want)
	}
}

func TestPermuteTableMovesBits(t *testing.T) {
	for _, f := range sampleTables() {
		for _, p := range orders(f.Bits) {
			g := (tables{t}).permute(f, p)
			for x, want := range values(f) {
				to := make([]int, f.Bits)
				for i, b := range bitsOf(f.Bits, x) {
					to[p[i]] = b
				}
				if valueOf(g, to) != want {
					t.Fatalf("PermuteTable(%v, %v) = %v, which is wrong at %v", f, p, g, to)
				}
			}
		}
	}
}

// TestPermuteTableCycle has a list that differs from its inverse: variable 0 becomes variable 1, this one 2, and so on.
func TestPermuteTableCycle(t *testing.T) {
	p := []int{1, 2, 3, 4, 0}
	for i := range 5 {
		v, _ := impl.VariableTable(5, i)
		want, _ := impl.VariableTable(5, p[i])
		if got := (tables{t}).permute(v, p); got != want {
			t.Errorf("PermuteTable(%v, %v) = %v, want %v", v, p, got, want)
		}
	}
}

func TestPermuteTableIsUndone(t *testing.T) {
	s := tables{t}
	for _, f := range sampleTables() {
		for _, p := range orders(f.Bits) {
			inverse := make([]int, f.Bits)
			for i, j := range p {
				inverse[j] = i
			}
			if s.permute(s.permute(f, p), inverse) != f || s.permute(s.permute(f, inverse), p) != f {
				t.Fatalf("PermuteTable(%v, %v) is not undone by %v", f, p, inverse)
			}
			if slices.IsSorted(p) && s.permute(f, p) != f {
				t.Fatalf("PermuteTable(%v, %v) is another table", f, p)
			}
		}
	}
}

// TestPermuteTablesOneAfterTheOther compares two permutations with the one that they make together.
func TestPermuteTablesOneAfterTheOther(t *testing.T) {
	s := tables{t}
	r := rand.New(rand.NewSource(3))
	for _, f := range sampleTables() {
		for range 5 {
			p, q := r.Perm(f.Bits), r.Perm(f.Bits)
			both := make([]int, f.Bits)
			for i := range both {
				both[i] = q[p[i]]
			}
			if s.permute(s.permute(f, p), q) != s.permute(f, both) {
				t.Fatalf("%v and then %v is not %v for %v", p, q, both, f)
			}
		}
	}
}

func TestPermuteTableKeepsItsList(t *testing.T) {
	memory := []int{2, 0, 1, 77, 78}
	f := impl.Table{Bits: 3, Word: 0x1b}
	(tables{t}).permute(f, memory[:3])
	if !slices.Equal(memory, []int{2, 0, 1, 77, 78}) {
		t.Errorf("the list has become %v", memory)
	}
}

// wrongOrders returns lists for n variables that are too short or too long, or contain a number twice or out of range.
func wrongOrders(n int) [][]int {
	var l [][]int
	for _, p := range orders(n) {
		l = append(l, append(slices.Clone(p), n), append(slices.Clone(p), 0), append(slices.Clone(p), p...), append(slices.Clone(p), -1))
		for k := range p {
			l = append(l, slices.Delete(slices.Clone(p), k, k+1))
			for _, i := range append(outOfRange, n, n+1, p[(k+1)%n]) {
				q := slices.Clone(p)
				q[k] = i
				l = append(l, q)
			}
		}
	}
	if n < 2 {
		l = slices.DeleteFunc(l, func(p []int) bool { return slices.Equal(p, orders(n)[0]) })
	}
	return append(l, make([]int, n+1), make([]int, 1000))
}

func TestPermuteTableRejects(t *testing.T) {
	reject := func(f impl.Table, p []int) {
		if g, ok := impl.PermuteTable(f, p); ok || g != (impl.Table{}) {
			t.Errorf("PermuteTable(%v, %v) = %v, %v", f, p, g, ok)
		}
	}
	for n := range impl.MaxBits + 1 {
		for _, f := range someTables(n)[:3] {
			for _, p := range wrongOrders(n) {
				reject(f, p)
			}
			for m := range impl.MaxBits + 2 {
				if m != n {
					reject(f, orders(m)[0])
				}
			}
		}
	}
	for _, f := range notTables() {
		for m := range impl.MaxBits + 2 {
			reject(f, orders(m)[0])
		}
		reject(f, []int{0, 0})
	}
}

func TestShiftTableMovesInputs(t *testing.T) {
	for _, f := range sampleTables() {
		for x := range 1 << f.Bits {
			shift := bitsOf(f.Bits, x)
			want := tableOf(f.Bits, func(bits []int) int {
				for i, b := range shift {
					bits[i] = (bits[i] + b) % 2
				}
				return valueOf(f, bits)
			})
			if got := (tables{t}).shift(f, x); got != want {
				t.Fatalf("ShiftTable(%v, %d) = %v, want %v", f, x, got, want)
			}
		}
	}
}

func TestShiftTableIsUndone(t *testing.T) {
	s := tables{t}
	for _, f := range sampleTables() {
		if s.shift(f, 0) != f {
			t.Fatalf("ShiftTable(%v, 0) is another table", f)
		}
		for x := range 1 << f.Bits {
			if got := s.shift(s.shift(f, x), x); got != f {
				t.Fatalf("ShiftTable of ShiftTable(%v, %d) = %v", f, x, got)
			}
		}
	}
}

func TestShiftTableRejects(t *testing.T) {
	reject := func(f impl.Table, x int) {
		if g, ok := impl.ShiftTable(f, x); ok || g != (impl.Table{}) {
			t.Errorf("ShiftTable(%v, %d) = %v, %v", f, x, g, ok)
		}
	}
	for n := range impl.MaxBits + 1 {
		for _, f := range someTables(n) {
			for _, x := range append(outOfRange, 1<<n, 1<<n+1, 2<<n) {
				reject(f, x)
			}
		}
	}
	for _, f := range notTables() {
		for _, x := range []int{-1, 0, 1, 31, 32, 64} {
			reject(f, x)
		}
	}
}

func TestReduceTableHasOnlyVariablesThatMatter(t *testing.T) {
	s := tables{t}
	for _, f := range append(sampleTables(), allTables(4)...) {
		g := s.reduce(f)
		kept := mattering(f)
		if len(mattering(g)) != g.Bits || len(impl.VariablesOf(g)) != g.Bits || s.reduce(g) != g {
			t.Fatalf("ReduceTable(%v) = %v has variables that do not matter", f, g)
		}
		want := tableOf(len(kept), func(bits []int) int {
			all := make([]int, f.Bits)
			for k, i := range kept {
				all[i] = bits[k]
			}
			return valueOf(f, all)
		})
		if g != want {
			t.Fatalf("ReduceTable(%v) = %v, want %v", f, g, want)
		}
	}
}

// TestReduceTableUndoesJoins adds variables that do not matter at places chosen by chance.
func TestReduceTableUndoesJoins(t *testing.T) {
	s := tables{t}
	r := rand.New(rand.NewSource(4))
	for _, f := range sampleTables() {
		want := s.reduce(f)
		for f.Bits < impl.MaxBits {
			f = s.join(f, f, r.Intn(f.Bits+1))
			if got := s.reduce(f); got != want {
				t.Fatalf("ReduceTable(%v) = %v, want %v", f, got, want)
			}
		}
	}
}

func TestReduceTableOfConstants(t *testing.T) {
	for n := range impl.MaxBits + 1 {
		if g := (tables{t}).reduce(impl.Table{Bits: n}); g != (impl.Table{}) {
			t.Errorf("ReduceTable of 0 of %d variables is %v", n, g)
		}
		if g := (tables{t}).reduce(impl.Table{Bits: n, Word: 1<<(1<<n) - 1}); g != (impl.Table{Word: 1}) {
			t.Errorf("ReduceTable of 1 of %d variables is %v", n, g)
		}
	}
}

func TestReduceTableRejects(t *testing.T) {
	for _, f := range notTables() {
		if g, ok := impl.ReduceTable(f); ok || g != (impl.Table{}) {
			t.Errorf("ReduceTable(%v) = %v, %v", f, g, ok)
		}
	}
}

func TestCubeValueIsTheSameOr2(t *testing.T) {
	for _, f := range sampleTables() {
		for mask := range 1 << f.Bits {
			set := bitsOf(f.Bits, mask)
			for value := range 1 << f.Bits {
				want := cubeValue(f, set, bitsOf(f.Bits, value))
				if got := impl.CubeValue(f, mask, value); got != want {
					t.Fatalf("CubeValue(%v, %d, %d) = %d, want %d", f, mask, value, got, want)
				}
			}
		}
	}
}

// cubeValue goes through the values at the inputs that have on set the bits of value, which are -1 if value has bits beside it.
func cubeValue(f impl.Table, set, value []int) int {
	for i := range set {
		if value[i] > set[i] {
			return -1
		}
	}
	found := map[int]bool{}
	for x, v := range values(f) {
		agrees := true
		for i, b := range bitsOf(f.Bits, x) {
			agrees = agrees && (set[i] == 0 || b == value[i])
		}
		if agrees {
			found[v] = true
		}
	}
	switch {
	case len(found) == 2:
		return 2
	case found[1]:
		return 1
	}
	return 0
}

// TestCubeValueIsOfRestrictions fixes the variables of mask one after the other.
func TestCubeValueIsOfRestrictions(t *testing.T) {
	for _, f := range sampleTables() {
		for mask := range 1 << f.Bits {
			for value := range 1 << f.Bits {
				g := f
				for i := f.Bits - 1; i >= 0; i-- {
					if mask/(1<<i)%2 == 1 {
						g = (tables{t}).restrict(g, i, value/(1<<i)%2)
					}
				}
				want := 2
				if impl.IsConstant(g) {
					want = impl.ValueAt(g, 0)
				}
				if got := impl.CubeValue(f, mask, value&mask); got != want {
					t.Fatalf("CubeValue(%v, %d, %d) = %d, want %d", f, mask, value&mask, got, want)
				}
			}
		}
	}
}

func TestCubeValueRejects(t *testing.T) {
	reject := func(f impl.Table, mask, value int) {
		if v := impl.CubeValue(f, mask, value); v != -1 {
			t.Errorf("CubeValue(%v, %d, %d) = %d", f, mask, value, v)
		}
	}
	for n := range impl.MaxBits + 1 {
		for _, f := range someTables(n)[:6] {
			for _, mask := range append(outOfRange, 1<<n, 1<<n+1, 2<<n, 3<<n) {
				for _, value := range []int{0, 1, mask, -1} {
					reject(f, mask, value)
				}
			}
			for mask := range 1 << n {
				for _, value := range append(outOfRange, mask+1<<n, 1<<n-1-mask|1<<n, math.MinInt|mask, -1<<n|mask) {
					reject(f, mask, value)
				}
			}
		}
	}
	for _, f := range notTables() {
		for _, mask := range []int{-1, 0, 1, 31, 32, 64} {
			reject(f, mask, 0)
			reject(f, mask, mask)
		}
	}
}

// TestTablesOfOneVariable has the constants, the variable and its negation, by their texts.
func TestTablesOfOneVariable(t *testing.T) {
	s := tables{t}
	zero, one := impl.Table{Bits: 0, Word: 0}, impl.Table{Bits: 0, Word: 1}
	constants := []impl.Table{zero, one}
	for text, reduced := range map[string]string{"00": "0", "11": "1", "01": "01", "10": "10"} {
		f, _ := impl.ParseTable(text)
		a, b := constants[text[0]-'0'], constants[text[1]-'0']
		if s.restrict(f, 0, 0) != a || s.restrict(f, 0, 1) != b || s.join(a, b, 0) != f {
			t.Errorf("%s is not joined of %v and %v", text, a, b)
		}
		if impl.DependsOn(f, 0) != (a != b) || impl.DependsOn(f, 1) || len(impl.VariablesOf(f)) != len(reduced)-1 {
			t.Errorf("%s depends on %v", text, impl.VariablesOf(f))
		}
		if s.permute(f, []int{0}) != f || s.shift(f, 0) != f || s.shift(f, 1) != s.join(b, a, 0) {
			t.Errorf("%s is not permuted and shifted", text)
		}
		if g := s.reduce(f); impl.FormatTable(g) != reduced {
			t.Errorf("ReduceTable of %s is %v", text, g)
		}
		all := 2
		if a == b {
			all = a.Word
		}
		if impl.CubeValue(f, 0, 0) != all || impl.CubeValue(f, 1, 0) != a.Word || impl.CubeValue(f, 1, 1) != b.Word || impl.CubeValue(f, 0, 1) != -1 || impl.CubeValue(f, 2, 0) != -1 {
			t.Errorf("the cubes of %s have other values", text)
		}
	}
}

// TestTablesOfNoVariablesHaveNothingToFix has the functions for both tables of one input.
func TestTablesOfNoVariablesHaveNothingToFix(t *testing.T) {
	s := tables{t}
	for v := range 2 {
		f := impl.Table{Word: v}
		if s.permute(f, nil) != f || s.permute(f, []int{}) != f || s.shift(f, 0) != f || s.reduce(f) != f || impl.CubeValue(f, 0, 0) != v {
			t.Errorf("%v is changed", f)
		}
		if g, ok := impl.RestrictTable(f, 0, 0); ok || g != (impl.Table{}) || impl.DependsOn(f, 0) || len(impl.VariablesOf(f)) != 0 {
			t.Errorf("%v has a variable", f)
		}
	}
}

// TestFiveVariablesAreRestricted has the greatest table, joined of the constants of four variables in both orders.
func TestFiveVariablesAreRestricted(t *testing.T) {
	s := tables{t}
	zero, one := impl.Table{Bits: 4}, impl.Table{Bits: 4, Word: 1<<16 - 1}
	for i := range 5 {
		v, _ := impl.VariableTable(5, i)
		if s.join(zero, one, i) != v || s.shift(v, 1<<i) != s.join(one, zero, i) || impl.CubeValue(v, 1<<i, 1<<i) != 1 || impl.CubeValue(v, 31-1<<i, 0) != 2 {
			t.Errorf("variable %d of five is not joined of the constants", i)
		}
	}
	last, _ := impl.ParseTable(strings.Repeat("0", 31) + "1")
	if g := s.shift(last, 31); g != (impl.Table{Bits: 5, Word: 1}) {
		t.Errorf("ShiftTable(%v, 31) = %v", last, g)
	}
	if impl.CubeValue(last, 31, 31) != 1 || impl.CubeValue(last, 31, 30) != 0 || impl.CubeValue(last, 15, 15) != 2 || impl.CubeValue(last, 0, 0) != 2 {
		t.Errorf("the cubes of %v have other values", last)
	}
	if g, ok := impl.JoinTables(last, last, 5); ok || g != (impl.Table{}) {
		t.Errorf("JoinTables of six variables = %v, %v", g, ok)
	}
}
