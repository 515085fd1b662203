package tests

import (
	"math"
	"slices"
	"testing"

	"loop.example/g03403/impl"
)

// cubeAt returns the cube that knows the variables of a set, as they are in the input x of n variables.
func cubeAt(n, x, set int) cube {
	bits, in, c := bitsOf(n, x), bitsOf(n, set), nothing(n)
	for i := range c {
		if in[i] == 1 {
			c[i] = bits[i]
		}
	}
	return c
}

// sizeOf returns the number of variables of a set.
func sizeOf(set int) int {
	size := 0
	for _, b := range bitsOf(impl.MaxBits, set) {
		size += b
	}
	return size
}

// settling returns the sets of variables that settle the value at x, in ascending order.
func settling(f impl.Table, x int) []int {
	var l []int
	for set := range 1 << f.Bits {
		if cubeAt(f.Bits, x, set).settles(f) {
			l = append(l, set)
		}
	}
	return l
}

// leastSet returns the least of the sets with fewest variables.
func leastSet(l []int) int {
	least := l[0]
	for _, set := range l {
		if sizeOf(set) < sizeOf(least) || sizeOf(set) == sizeOf(least) && set < least {
			least = set
		}
	}
	return least
}

func certificateSet(t *testing.T, f impl.Table, x int) int {
	t.Helper()
	set, ok := impl.CertificateSet(f, x)
	if !ok || set < 0 || set >= 1<<f.Bits {
		t.Fatalf("CertificateSet(%v, %d) = %d, %v", f, x, set, ok)
	}
	return set
}

// certificateSets returns CertificateSet of all inputs.
func certificateSets(t *testing.T, f impl.Table) []int {
	t.Helper()
	l := make([]int, 1<<f.Bits)
	for x := range l {
		l[x] = certificateSet(t, f, x)
	}
	return l
}

func TestIsCertificateSettlesTheValue(t *testing.T) {
	for _, f := range sampleTables() {
		for x := range 1 << f.Bits {
			l := settling(f, x)
			for set := range 1 << f.Bits {
				if got, want := impl.IsCertificate(f, x, set), slices.Contains(l, set); got != want {
					t.Fatalf("IsCertificate(%v, %d, %d) = %v, want %v", f, x, set, got, want)
				}
			}
		}
	}
}

func TestCertificateSetIsLeast(t *testing.T) {
	for _, f := range sampleTables() {
		for x := range 1 << f.Bits {
			want := leastSet(settling(f, x))
			if got := certificateSet(t, f, x); got != want {
				t.Fatalf("CertificateSet(%v, %d) = %d, want %d", f, x, got, want)
			}
			if got := impl.CertificateAt(f, x); got != sizeOf(want) {
				t.Fatalf("CertificateAt(%v, %d) = %d, want %d", f, x, got, sizeOf(want))
			}
		}
	}
}

// TestCertificateSetOfItself has that of all sets for which IsCertificate is true.
func TestCertificateSetOfItself(t *testing.T) {
	for _, f := range sampleTables() {
		for x := range 1 << f.Bits {
			got := certificateSet(t, f, x)
			if !impl.IsCertificate(f, x, got) {
				t.Fatalf("CertificateSet(%v, %d) = %d, which is no certificate", f, x, got)
			}
			for set := range 1 << f.Bits {
				if impl.IsCertificate(f, x, set) && (sizeOf(set) < sizeOf(got) || sizeOf(set) == sizeOf(got) && set < got) {
					t.Fatalf("CertificateSet(%v, %d) = %d, though %d is a certificate", f, x, got, set)
				}
			}
			if at := impl.CertificateAt(f, x); at != sizeOf(got) {
				t.Fatalf("CertificateAt(%v, %d) = %d, CertificateSet = %d", f, x, at, got)
			}
		}
	}
}

func TestCertificateOfIsGreatest(t *testing.T) {
	for _, f := range sampleTables() {
		want, same := [2]int{}, [2]int{}
		for x, v := range values(f) {
			want[v] = max(want[v], sizeOf(leastSet(settling(f, x))))
			same[v] = max(same[v], impl.CertificateAt(f, x))
		}
		for b := range 2 {
			if got := impl.CertificateOf(f, b); got != want[b] || got != same[b] {
				t.Fatalf("CertificateOf(%v, %d) = %d, want %d, the greatest CertificateAt is %d", f, b, got, want[b], same[b])
			}
		}
	}
}

// checkMeeting has that the sets of any two inputs with different values share a variable in which these differ.
func checkMeeting(t *testing.T, f impl.Table) {
	t.Helper()
	l, sets := values(f), certificateSets(t, f)
	for x := range l {
		for y := range l {
			met := false
			for i := range f.Bits {
				met = met || bitsOf(f.Bits, sets[x])[i] == 1 && bitsOf(f.Bits, sets[y])[i] == 1 && bitsOf(f.Bits, x)[i] != bitsOf(f.Bits, y)[i]
			}
			if l[x] != l[y] && !met {
				t.Fatalf("CertificateSet(%v, %d) = %d and CertificateSet(%v, %d) = %d do not meet", f, x, sets[x], f, y, sets[y])
			}
		}
	}
}

func TestCertificatesMeet(t *testing.T) {
	for _, f := range sampleTables() {
		checkMeeting(t, f)
		if !impl.MeetingOf(f) {
			t.Fatalf("MeetingOf(%v) = false", f)
		}
	}
}

func TestMeetingOfAllTables(t *testing.T) {
	for n := range 5 {
		for _, f := range allTables(n) {
			if !impl.MeetingOf(f) {
				t.Fatalf("MeetingOf(%v) = false", f)
			}
		}
	}
	for word := 0; word < 1<<32; word += 1<<32/97 + 1 {
		if f := (impl.Table{Bits: 5, Word: word}); !impl.MeetingOf(f) {
			t.Fatalf("MeetingOf(%v) = false", f)
		}
	}
}

func TestCertificatesOfTables(t *testing.T) {
	for _, c := range []struct {
		f    string
		sets []int
		of   [2]int
	}{
		{"0", []int{0}, [2]int{0, 0}},
		{"1", []int{0}, [2]int{0, 0}},
		{"01", []int{1, 1}, [2]int{1, 1}},
		{"10", []int{1, 1}, [2]int{1, 1}},
		{"0001", []int{1, 2, 1, 3}, [2]int{1, 2}},
		{"0111", []int{3, 1, 2, 1}, [2]int{2, 1}},
		{"0110", []int{3, 3, 3, 3}, [2]int{2, 2}},
		{"0011", []int{2, 2, 2, 2}, [2]int{1, 1}},
		{"0100", []int{1, 3, 1, 2}, [2]int{1, 2}},
		{"00010111", []int{3, 6, 5, 3, 3, 5, 6, 3}, [2]int{2, 2}},
		{"01010011", []int{3, 5, 5, 3, 3, 6, 6, 3}, [2]int{2, 2}},
		{"00000001", []int{1, 2, 1, 4, 1, 2, 1, 7}, [2]int{1, 3}},
		{"01101001", []int{7, 7, 7, 7, 7, 7, 7, 7}, [2]int{3, 3}},
		{"01111110", []int{7, 3, 3, 5, 5, 3, 3, 7}, [2]int{3, 2}},
		{"0001000100011111", []int{5, 6, 5, 3, 9, 10, 9, 3, 5, 6, 5, 3, 12, 12, 12, 3}, [2]int{2, 2}},
		{"0000000011111111", []int{8, 8, 8, 8, 8, 8, 8, 8, 8, 8, 8, 8, 8, 8, 8, 8}, [2]int{1, 1}},
		{"0000000000000001", []int{1, 2, 1, 4, 1, 2, 1, 8, 1, 2, 1, 4, 1, 2, 1, 15}, [2]int{1, 4}},
	} {
		f, _ := impl.ParseTable(c.f)
		if got := certificateSets(t, f); !slices.Equal(got, c.sets) {
			t.Errorf("CertificateSet(%s) = %v, want %v", c.f, got, c.sets)
		}
		for b, want := range c.of {
			if got := impl.CertificateOf(f, b); got != want {
				t.Errorf("CertificateOf(%s, %d) = %d, want %d", c.f, b, got, want)
			}
		}
	}
}

// TestSeveralCertificates has inputs at which several sets have the fewest variables, or a lesser number has more of them.
func TestSeveralCertificates(t *testing.T) {
	for _, c := range []struct {
		f    string
		x    int
		sets []int
	}{
		{"0001", 0, []int{1, 2, 3}},
		{"00010111", 7, []int{3, 5, 6, 7}},
		{"01111110", 1, []int{3, 5, 7}},
		{"01111110", 4, []int{5, 6, 7}},
		// 7 is less than 8, but has more variables.
		{"0000000111111111", 15, []int{7, 8, 9, 10, 11, 12, 13, 14, 15}},
		{"00000001000000010000000100000001", 31, []int{7, 15, 23, 31}},
	} {
		f, _ := impl.ParseTable(c.f)
		var got []int
		for set := range 1 << f.Bits {
			if impl.IsCertificate(f, c.x, set) {
				got = append(got, set)
			}
		}
		if !slices.Equal(got, c.sets) {
			t.Errorf("the certificates of %s at %d are %v, want %v", c.f, c.x, got, c.sets)
		}
		if set := certificateSet(t, f, c.x); set != leastSet(c.sets) {
			t.Errorf("CertificateSet(%s, %d) = %d, want %d", c.f, c.x, set, leastSet(c.sets))
		}
	}
}

func TestConstantsNeedNoCertificate(t *testing.T) {
	for n := range impl.MaxBits + 1 {
		for v, f := range []impl.Table{{Bits: n}, {Bits: n, Word: 1<<(1<<n) - 1}} {
			for x := range 1 << n {
				if set, ok := impl.CertificateSet(f, x); set != 0 || !ok {
					t.Errorf("CertificateSet(%v, %d) = %d, %v", f, x, set, ok)
				}
				if got := impl.CertificateAt(f, x); got != 0 {
					t.Errorf("CertificateAt(%v, %d) = %d", f, x, got)
				}
				for set := range 1 << n {
					if !impl.IsCertificate(f, x, set) {
						t.Errorf("IsCertificate(%v, %d, %d) = false", f, x, set)
					}
				}
			}
			// No input has the other value.
			if impl.CertificateOf(f, v) != 0 || impl.CertificateOf(f, 1-v) != 0 || !impl.MeetingOf(f) {
				t.Errorf("CertificateOf(%v) = %d and %d, MeetingOf = %v", f, impl.CertificateOf(f, 0), impl.CertificateOf(f, 1), impl.MeetingOf(f))
			}
		}
	}
}

// TestOnlyConstantsNeedNoCertificate has that the empty set is a certificate of constants alone.
func TestOnlyConstantsNeedNoCertificate(t *testing.T) {
	for _, f := range sampleTables() {
		l := values(f)
		constant := slices.Min(l) == slices.Max(l)
		for x := range l {
			if impl.IsCertificate(f, x, 0) != constant || (impl.CertificateAt(f, x) == 0) != constant {
				t.Fatalf("IsCertificate(%v, %d, 0) = %v, CertificateAt = %d", f, x, impl.IsCertificate(f, x, 0), impl.CertificateAt(f, x))
			}
		}
		for b := range 2 {
			if (impl.CertificateOf(f, b) == 0) != constant {
				t.Fatalf("CertificateOf(%v, %d) = %d", f, b, impl.CertificateOf(f, b))
			}
		}
	}
}

// TestCertificatesWithMore has that a set that contains a certificate is one, and that without any variable of CertificateSet it is none.
func TestCertificatesWithMore(t *testing.T) {
	for _, f := range sampleTables() {
		for x := range 1 << f.Bits {
			least := certificateSet(t, f, x)
			for i := range f.Bits {
				bit := 1 << i
				if least&bit != 0 && impl.IsCertificate(f, x, least-bit) {
					t.Fatalf("IsCertificate(%v, %d, %d) = true, CertificateSet = %d", f, x, least-bit, least)
				}
				for set := range 1 << f.Bits {
					if impl.IsCertificate(f, x, set) && !impl.IsCertificate(f, x, set|bit) {
						t.Fatalf("IsCertificate(%v, %d, %d) = true, but not for %d", f, x, set, set|bit)
					}
				}
			}
			if all := 1<<f.Bits - 1; !impl.IsCertificate(f, x, all) {
				t.Fatalf("IsCertificate(%v, %d, %d) = false", f, x, all)
			}
		}
	}
}

// TestCertificatesAreOfTheInput has CubeValue of what an input has in the set.
func TestCertificatesAreOfTheInput(t *testing.T) {
	for _, f := range sampleTables() {
		for x, v := range values(f) {
			for set := range 1 << f.Bits {
				c := cubeAt(f.Bits, x, set).term()
				if got, want := impl.IsCertificate(f, x, set), impl.CubeValue(f, c.Mask, c.Value) == v; got != want {
					t.Fatalf("IsCertificate(%v, %d, %d) = %v, CubeValue = %d", f, x, set, got, impl.CubeValue(f, c.Mask, c.Value))
				}
			}
		}
	}
}

// TestCertificatesOfUselessVariables adds a variable that does not matter at each place.
func TestCertificatesOfUselessVariables(t *testing.T) {
	s := tables{t}
	for n := range impl.MaxBits {
		for _, f := range tablesOf(n) {
			for i := range n + 1 {
				g := s.join(f, f, i)
				for x := range 1 << n {
					checkUselessAt(t, f, g, x, i)
				}
				for b := range 2 {
					if impl.CertificateOf(g, b) != impl.CertificateOf(f, b) {
						t.Fatalf("CertificateOf(%v, %d) = %d, of %v %d", g, b, impl.CertificateOf(g, b), f, impl.CertificateOf(f, b))
					}
				}
				if !impl.MeetingOf(g) {
					t.Fatalf("MeetingOf(%v) = false", g)
				}
			}
		}
	}
}

// withBit returns the number of n bits with one more, b, at i.
func withBit(n, x, i, b int) int {
	return inputOf(slices.Insert(bitsOf(n, x), i, b))
}

func checkUselessAt(t *testing.T, f, g impl.Table, x, i int) {
	t.Helper()
	n := f.Bits
	want := withBit(n, certificateSet(t, f, x), i, 0)
	for b := range 2 {
		y := withBit(n, x, i, b)
		if got := certificateSet(t, g, y); got != want || impl.CertificateAt(g, y) != impl.CertificateAt(f, x) {
			t.Fatalf("CertificateSet(%v, %d) = %d, want %d, CertificateAt = %d", g, y, got, want, impl.CertificateAt(g, y))
		}
		for set := range 1 << n {
			for in := range 2 {
				if longer := withBit(n, set, i, in); impl.IsCertificate(g, y, longer) != impl.IsCertificate(f, x, set) {
					t.Fatalf("IsCertificate(%v, %d, %d) = %v, of %v, %d, %d %v", g, y, longer, impl.IsCertificate(g, y, longer), f, x, set, impl.IsCertificate(f, x, set))
				}
			}
		}
	}
}

// TestCertificateSetsHaveVariablesThatMatter includes tables that do not depend on all of their variables.
func TestCertificateSetsHaveVariablesThatMatter(t *testing.T) {
	for _, f := range sampleTables() {
		l := mattering(f)
		for x, set := range certificateSets(t, f) {
			for i, b := range bitsOf(f.Bits, set) {
				if b == 1 && !slices.Contains(l, i) {
					t.Fatalf("CertificateSet(%v, %d) = %d, though variable %d does not matter", f, x, set, i)
				}
			}
		}
	}
}

func TestCertificatesOfNegations(t *testing.T) {
	for _, f := range sampleTables() {
		g, _ := impl.NotTable(f)
		if got, want := certificateSets(t, g), certificateSets(t, f); !slices.Equal(got, want) {
			t.Fatalf("CertificateSet(%v) = %v, of %v %v", g, got, f, want)
		}
		for b := range 2 {
			if impl.CertificateOf(g, b) != impl.CertificateOf(f, 1-b) {
				t.Fatalf("CertificateOf(%v, %d) = %d, of %v, %d %d", g, b, impl.CertificateOf(g, b), f, 1-b, impl.CertificateOf(f, 1-b))
			}
		}
	}
}

func TestCertificatesOfShifts(t *testing.T) {
	s := tables{t}
	for n := range 5 {
		for _, f := range tablesOf(n) {
			sets := certificateSets(t, f)
			for shift := range sets {
				g := s.shift(f, shift)
				for x, want := range sets {
					// Inputs are changed in the bits of shift, one after the other.
					bits := bitsOf(n, x)
					for i, b := range bitsOf(n, shift) {
						bits[i] = (bits[i] + b) % 2
					}
					if got := certificateSet(t, g, inputOf(bits)); got != want {
						t.Fatalf("CertificateSet(%v, %d) = %d, of %v, %d %d", g, inputOf(bits), got, f, x, want)
					}
				}
			}
		}
	}
}

func TestCertificatesOfPermutations(t *testing.T) {
	s := tables{t}
	moved := func(x int, p []int) int {
		l := make([]int, len(p))
		for i, b := range bitsOf(len(p), x) {
			l[p[i]] = b
		}
		return inputOf(l)
	}
	for n := range 4 {
		for _, f := range tablesOf(n) {
			for _, p := range orders(n) {
				g := s.permute(f, p)
				for x := range 1 << n {
					y := moved(x, p)
					if impl.CertificateAt(g, y) != impl.CertificateAt(f, x) {
						t.Fatalf("CertificateAt(%v, %d) = %d, of %v, %d %d", g, y, impl.CertificateAt(g, y), f, x, impl.CertificateAt(f, x))
					}
					for set := range 1 << n {
						if impl.IsCertificate(g, y, moved(set, p)) != impl.IsCertificate(f, x, set) {
							t.Fatalf("IsCertificate(%v, %d, %d) = %v, of %v, %d, %d %v", g, y, moved(set, p), impl.IsCertificate(g, y, moved(set, p)), f, x, set, impl.IsCertificate(f, x, set))
						}
					}
				}
			}
		}
	}
}

// TestCertificateSetsAreMasksOfPrimes has the sets of the inputs with 1 as those of the prime terms that hold there.
func TestCertificateSetsAreMasksOfPrimes(t *testing.T) {
	for _, f := range sampleTables() {
		primes := primesOf(t, f)
		for x, v := range values(f) {
			if v == 0 {
				continue
			}
			var masks []int
			for _, p := range primes {
				if impl.TermHolds(p, x) {
					masks = append(masks, p.Mask)
				}
			}
			if got := certificateSet(t, f, x); got != leastSet(masks) {
				t.Fatalf("CertificateSet(%v, %d) = %d, the primes that hold have %v", f, x, got, masks)
			}
		}
	}
}

// TestCertificatesBoundTrees has that the variables asked by a tree are a certificate, and that both values bound the depth.
func TestCertificatesBoundTrees(t *testing.T) {
	for _, f := range playedTables() {
		s := bestTree(t, f)
		for x := range 1 << f.Bits {
			letters, _ := asked(s, bitsOf(f.Bits, x))
			set := 0
			for _, c := range letters {
				set += 1 << (c - 'a')
			}
			if !impl.IsCertificate(f, x, set) || impl.CertificateAt(f, x) > len(letters) {
				t.Fatalf("BestTree(%v) asks for %q at %d, CertificateAt = %d", f, letters, x, impl.CertificateAt(f, x))
			}
		}
		zero, one, depth := impl.CertificateOf(f, 0), impl.CertificateOf(f, 1), impl.LeastDepth(f)
		if max(zero, one) > depth || depth > zero*one {
			t.Fatalf("CertificateOf(%v) = %d and %d, LeastDepth = %d", f, zero, one, depth)
		}
	}
}

func TestCertificatesOfFiveVariables(t *testing.T) {
	and := tableOf(5, func(bits []int) int { return slices.Min(bits) })
	parity := tableOf(5, func(bits []int) int { return (bits[0] + bits[1] + bits[2] + bits[3] + bits[4]) % 2 })
	majority := tableOf(5, func(bits []int) int { return (bits[0] + bits[1] + bits[2] + bits[3] + bits[4]) / 3 })
	last := tableOf(5, func(bits []int) int { return bits[4] })
	for x := range 32 {
		want := 31
		if i := slices.Index(bitsOf(5, x), 0); i >= 0 {
			want = 1 << i
		}
		if got := certificateSet(t, and, x); got != want {
			t.Errorf("CertificateSet(%v, %d) = %d, want %d", and, x, got, want)
		}
		if got := certificateSet(t, parity, x); got != 31 || impl.CertificateAt(parity, x) != 5 {
			t.Errorf("CertificateSet(%v, %d) = %d", parity, x, got)
		}
		if got := certificateSet(t, last, x); got != 16 || impl.CertificateAt(last, x) != 1 {
			t.Errorf("CertificateSet(%v, %d) = %d", last, x, got)
		}
		if got := impl.CertificateAt(majority, x); got != 3 {
			t.Errorf("CertificateAt(%v, %d) = %d", majority, x, got)
		}
	}
	for _, c := range []struct {
		f         impl.Table
		zero, one int
	}{{and, 1, 5}, {parity, 5, 5}, {majority, 3, 3}, {last, 1, 1}, {impl.Table{Bits: 5, Word: 1 << 31}, 1, 5}, {impl.Table{Bits: 5, Word: 1<<32 - 2}, 5, 1}} {
		if impl.CertificateOf(c.f, 0) != c.zero || impl.CertificateOf(c.f, 1) != c.one || !impl.MeetingOf(c.f) {
			t.Errorf("CertificateOf(%v) = %d and %d, want %d and %d", c.f, impl.CertificateOf(c.f, 0), impl.CertificateOf(c.f, 1), c.zero, c.one)
		}
	}
}

// checkNoInput has the functions fail for an input, whichever set is asked for.
func checkNoInput(t *testing.T, f impl.Table, x int) {
	t.Helper()
	if set, ok := impl.CertificateSet(f, x); set != 0 || ok {
		t.Errorf("CertificateSet(%v, %d) = %d, %v", f, x, set, ok)
	}
	if got := impl.CertificateAt(f, x); got != -1 {
		t.Errorf("CertificateAt(%v, %d) = %d", f, x, got)
	}
	for _, set := range []int{math.MinInt, -1, 0, 1, 2, 3, 7, 15, 16, 31, 32, 63, math.MaxInt} {
		if impl.IsCertificate(f, x, set) {
			t.Errorf("IsCertificate(%v, %d, %d) = true", f, x, set)
		}
	}
}

func TestCertificatesRejectTables(t *testing.T) {
	for _, f := range notTables() {
		for _, x := range append([]int{0, 1, 2, 15, 31}, outOfRange...) {
			checkNoInput(t, f, x)
		}
		for _, b := range append([]int{0, 1, 2}, outOfRange...) {
			if got := impl.CertificateOf(f, b); got != -1 {
				t.Errorf("CertificateOf(%v, %d) = %d", f, b, got)
			}
		}
		if impl.MeetingOf(f) {
			t.Errorf("MeetingOf(%v) = true", f)
		}
	}
}

func TestCertificatesRejectInputs(t *testing.T) {
	for n := range impl.MaxBits + 1 {
		for _, f := range someTables(n) {
			for _, x := range append(outOfRange, 1<<n, 1<<n+1, 2<<n-1, 2<<n, 3<<n, -1<<n, -1<<n|1) {
				checkNoInput(t, f, x)
			}
		}
	}
}

func TestIsCertificateRejectsSets(t *testing.T) {
	for n := range impl.MaxBits + 1 {
		for _, f := range someTables(n) {
			for x := range 1 << n {
				for _, set := range append(outOfRange, 1<<n, 1<<n+1, 2<<n-1, 2<<n, 3<<n, -1<<n, -1<<n|1) {
					if impl.IsCertificate(f, x, set) {
						t.Errorf("IsCertificate(%v, %d, %d) = true", f, x, set)
					}
				}
			}
		}
	}
}

func TestCertificateOfRejectsValues(t *testing.T) {
	for n := range impl.MaxBits + 1 {
		for _, f := range someTables(n) {
			for _, b := range append(outOfRange, 2, 3) {
				if got := impl.CertificateOf(f, b); got != -1 {
					t.Errorf("CertificateOf(%v, %d) = %d", f, b, got)
				}
			}
		}
	}
}
