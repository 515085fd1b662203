package tests

import (
	"math"
	"slices"
	"testing"

	"loop.example/g03403/impl"
)

// changed returns the input x of n variables with the variables of a set changed.
func changed(n, x, set int) int {
	bits := bitsOf(n, x)
	for i, b := range bitsOf(n, set) {
		bits[i] = (bits[i] + b) % 2
	}
	return inputOf(bits)
}

// isPart reports whether all variables of part are in the set.
func isPart(part, set int) bool {
	p, s := bitsOf(impl.MaxBits, part), bitsOf(impl.MaxBits, set)
	for i := range p {
		if p[i] > s[i] {
			return false
		}
	}
	return true
}

// haveCommon reports whether both sets have a variable in common.
func haveCommon(a, b int) bool {
	p, s := bitsOf(impl.MaxBits, a), bitsOf(impl.MaxBits, b)
	for i := range p {
		if p[i]+s[i] == 2 {
			return true
		}
	}
	return false
}

// changing returns the sets whose change changes the value at x, in ascending order.
func changing(f impl.Table, x int) []int {
	var blocks []int
	l := values(f)
	for set := range l {
		if l[changed(f.Bits, x, set)] != l[x] {
			blocks = append(blocks, set)
		}
	}
	return blocks
}

// withoutParts returns the blocks of which no other one is a part.
func withoutParts(blocks []int) []int {
	var l []int
	for _, block := range blocks {
		if !slices.ContainsFunc(blocks, func(part int) bool { return part != block && isPart(part, block) }) {
			l = append(l, block)
		}
	}
	return l
}

// mostIn returns the greatest number of blocks that a set can be taken apart into, some of its variables left over.
func mostIn(n, set int, blocks []int) int {
	// What is found for lesser sets, among them what is left of a set after any block of it.
	l := make([]int, set+1)
	for s := range l {
		for _, block := range blocks {
			if isPart(block, s) {
				l[s] = max(l[s], 1+l[changed(n, s, block)])
			}
		}
	}
	return l[set]
}

// mostOfChoices tries all choices of blocks, and returns the greatest number of those no two of which have a variable in common.
func mostOfChoices(blocks []int) int {
	most := 0
	for choice := range 1 << len(blocks) {
		var l []int
		for k, b := range bitsOf(len(blocks), choice) {
			if b == 1 {
				l = append(l, blocks[k])
			}
		}
		if len(l) > most && areApart(l) {
			most = len(l)
		}
	}
	return most
}

func areApart(l []int) bool {
	for k := range l {
		for j := range k {
			if haveCommon(l[k], l[j]) {
				return false
			}
		}
	}
	return true
}

func minimalBlocks(t *testing.T, f impl.Table, x int) []int {
	t.Helper()
	l, ok := impl.MinimalBlocks(f, x)
	if !ok {
		t.Fatalf("MinimalBlocks(%v, %d) = %v, false", f, x, l)
	}
	return l
}

// sensitivities returns the function's results for all inputs.
func sensitivities(f impl.Table, at func(impl.Table, int) int) []int {
	l := make([]int, 1<<f.Bits)
	for x := range l {
		l[x] = at(f, x)
	}
	return l
}

func sum(l []int) int {
	n := 0
	for _, m := range l {
		n += m
	}
	return n
}

func TestSensitivityAtCountsVariables(t *testing.T) {
	for _, f := range sampleTables() {
		l := values(f)
		for x := range l {
			want := 0
			for i := range f.Bits {
				bits := bitsOf(f.Bits, x)
				bits[i] = 1 - bits[i]
				if valueOf(f, bits) != l[x] {
					want++
				}
			}
			if got := impl.SensitivityAt(f, x); got != want {
				t.Fatalf("SensitivityAt(%v, %d) = %d, want %d", f, x, got, want)
			}
		}
	}
}

func TestIsSensitiveBlockChangesTheValue(t *testing.T) {
	for _, f := range sampleTables() {
		for x := range 1 << f.Bits {
			blocks := changing(f, x)
			for set := range 1 << f.Bits {
				if got, want := impl.IsSensitiveBlock(f, x, set), slices.Contains(blocks, set); got != want {
					t.Fatalf("IsSensitiveBlock(%v, %d, %d) = %v, want %v", f, x, set, got, want)
				}
			}
			if impl.IsSensitiveBlock(f, x, 0) {
				t.Fatalf("IsSensitiveBlock(%v, %d, 0) = true", f, x)
			}
		}
	}
}

func TestMinimalBlocksHaveNoParts(t *testing.T) {
	for _, f := range sampleTables() {
		for x := range 1 << f.Bits {
			if got, want := minimalBlocks(t, f, x), withoutParts(changing(f, x)); !slices.Equal(got, want) {
				t.Fatalf("MinimalBlocks(%v, %d) = %v, want %v", f, x, got, want)
			}
		}
	}
}

// TestMinimalBlocksAreOfIsSensitiveBlock tries all parts of all sets.
func TestMinimalBlocksAreOfIsSensitiveBlock(t *testing.T) {
	for _, f := range sampleTables() {
		for x := range 1 << f.Bits {
			var want []int
			for set := range 1 << f.Bits {
				minimal := impl.IsSensitiveBlock(f, x, set)
				for part := range set {
					minimal = minimal && !(isPart(part, set) && impl.IsSensitiveBlock(f, x, part))
				}
				if minimal {
					want = append(want, set)
				}
			}
			if got := minimalBlocks(t, f, x); !slices.Equal(got, want) {
				t.Fatalf("MinimalBlocks(%v, %d) = %v, want %v", f, x, got, want)
			}
		}
	}
}

// TestSensitivityAtIsOfSingleVariables has that the variables whose change changes the value are minimal blocks.
func TestSensitivityAtIsOfSingleVariables(t *testing.T) {
	for _, f := range sampleTables() {
		for x := range 1 << f.Bits {
			l := minimalBlocks(t, f, x)
			want := 0
			for i := range f.Bits {
				if slices.Contains(l, 1<<i) {
					want++
				}
			}
			if got := impl.SensitivityAt(f, x); got != want {
				t.Fatalf("SensitivityAt(%v, %d) = %d, MinimalBlocks = %v", f, x, got, l)
			}
		}
	}
}

// TestBlockSensitivityAtIsGreatest finds it among all sensitive blocks, minimal or not.
func TestBlockSensitivityAtIsGreatest(t *testing.T) {
	for _, f := range sampleTables() {
		for x := range 1 << f.Bits {
			want := mostIn(f.Bits, 1<<f.Bits-1, changing(f, x))
			if got := impl.BlockSensitivityAt(f, x); got != want {
				t.Fatalf("BlockSensitivityAt(%v, %d) = %d, want %d", f, x, got, want)
			}
		}
	}
}

func TestBlockSensitivityAtIsOfMinimalBlocks(t *testing.T) {
	for _, f := range sampleTables() {
		for x := range 1 << f.Bits {
			l := minimalBlocks(t, f, x)
			// No more sets of five variables can be parts of none of the others.
			if len(l) > 10 {
				t.Fatalf("MinimalBlocks(%v, %d) = %v", f, x, l)
			}
			if got, want := impl.BlockSensitivityAt(f, x), mostOfChoices(l); got != want {
				t.Fatalf("BlockSensitivityAt(%v, %d) = %d, want %d, MinimalBlocks = %v", f, x, got, want, l)
			}
		}
	}
}

func TestSensitivitiesAreGreatest(t *testing.T) {
	for _, f := range sampleTables() {
		if got, want := impl.SensitivityOf(f), slices.Max(sensitivities(f, impl.SensitivityAt)); got != want {
			t.Fatalf("SensitivityOf(%v) = %d, want %d", f, got, want)
		}
		if got, want := impl.BlockSensitivityOf(f), slices.Max(sensitivities(f, impl.BlockSensitivityAt)); got != want {
			t.Fatalf("BlockSensitivityOf(%v) = %d, want %d", f, got, want)
		}
	}
}

func TestSensitiveEdgesArePairs(t *testing.T) {
	for _, f := range sampleTables() {
		l := values(f)
		want := 0
		for x := range l {
			for y := range x {
				different := 0
				for i, b := range bitsOf(f.Bits, x) {
					if bitsOf(f.Bits, y)[i] != b {
						different++
					}
				}
				if different == 1 && l[x] != l[y] {
					want++
				}
			}
		}
		if got := impl.SensitiveEdges(f); got != want {
			t.Fatalf("SensitiveEdges(%v) = %d, want %d", f, got, want)
		}
	}
}

func TestSensitiveEdgesAreHalfOfTheSum(t *testing.T) {
	for n := range 5 {
		for _, f := range allTables(n) {
			if edges, l := impl.SensitiveEdges(f), sensitivities(f, impl.SensitivityAt); 2*edges != sum(l) {
				t.Fatalf("SensitiveEdges(%v) = %d, SensitivityAt = %v", f, edges, l)
			}
		}
	}
	for _, f := range someTables(5) {
		if edges, l := impl.SensitiveEdges(f), sensitivities(f, impl.SensitivityAt); 2*edges != sum(l) {
			t.Fatalf("SensitiveEdges(%v) = %d, SensitivityAt = %v", f, edges, l)
		}
	}
}

// checkOrder has that at each input sensitivity is at most block sensitivity, and this at most the certificate's size.
func checkOrder(t *testing.T, f impl.Table) {
	t.Helper()
	for x := range 1 << f.Bits {
		single, blocks, certificate := impl.SensitivityAt(f, x), impl.BlockSensitivityAt(f, x), impl.CertificateAt(f, x)
		if single < 0 || single > blocks || blocks > certificate {
			t.Fatalf("SensitivityAt(%v, %d) = %d, BlockSensitivityAt = %d, CertificateAt = %d", f, x, single, blocks, certificate)
		}
	}
	single, blocks, certificate := impl.SensitivityOf(f), impl.BlockSensitivityOf(f), max(impl.CertificateOf(f, 0), impl.CertificateOf(f, 1))
	if single < 0 || single > blocks || blocks > certificate {
		t.Fatalf("SensitivityOf(%v) = %d, BlockSensitivityOf = %d, CertificateOf = %d", f, single, blocks, certificate)
	}
}

func TestSensitivitiesAreInOrder(t *testing.T) {
	for _, f := range sampleTables() {
		checkOrder(t, f)
	}
	for word := 0; word < 1<<16; word += 7 {
		checkOrder(t, impl.Table{Bits: 4, Word: word})
	}
}

// TestBlocksFitIntoCertificates has that each sensitive block shares a variable with CertificateSet.
func TestBlocksFitIntoCertificates(t *testing.T) {
	for _, f := range sampleTables() {
		for x := range 1 << f.Bits {
			set := certificateSet(t, f, x)
			for block := range 1 << f.Bits {
				if impl.IsSensitiveBlock(f, x, block) && !haveCommon(block, set) {
					t.Fatalf("IsSensitiveBlock(%v, %d, %d) = true, CertificateSet = %d", f, x, block, set)
				}
			}
			for _, block := range minimalBlocks(t, f, x) {
				if !haveCommon(block, set) {
					t.Fatalf("MinimalBlocks(%v, %d) has %d, CertificateSet = %d", f, x, block, set)
				}
			}
		}
	}
}

// TestCertificatesAreWhatBlocksMeet has that the sets that share a variable with each minimal block are the certificates.
func TestCertificatesAreWhatBlocksMeet(t *testing.T) {
	for _, f := range sampleTables() {
		for x := range 1 << f.Bits {
			blocks := minimalBlocks(t, f, x)
			for set := range 1 << f.Bits {
				meets := !slices.ContainsFunc(blocks, func(block int) bool { return !haveCommon(block, set) })
				if got := impl.IsCertificate(f, x, set); got != meets {
					t.Fatalf("IsCertificate(%v, %d, %d) = %v, MinimalBlocks = %v", f, x, set, got, blocks)
				}
			}
		}
	}
}

func TestSensitivitiesOfTables(t *testing.T) {
	for _, c := range []struct {
		f              string
		single, blocks []int
		edges          int
	}{
		{"0", []int{0}, []int{0}, 0},
		{"1", []int{0}, []int{0}, 0},
		{"00", []int{0, 0}, []int{0, 0}, 0},
		{"01", []int{1, 1}, []int{1, 1}, 1},
		{"10", []int{1, 1}, []int{1, 1}, 1},
		{"0001", []int{0, 1, 1, 2}, []int{1, 1, 1, 2}, 2},
		{"0111", []int{2, 1, 1, 0}, []int{2, 1, 1, 1}, 2},
		{"0110", []int{2, 2, 2, 2}, []int{2, 2, 2, 2}, 4},
		{"0011", []int{1, 1, 1, 1}, []int{1, 1, 1, 1}, 2},
		{"0100", []int{1, 2, 0, 1}, []int{1, 2, 1, 1}, 2},
		{"00010111", []int{0, 2, 2, 2, 2, 2, 2, 0}, []int{1, 2, 2, 2, 2, 2, 2, 1}, 6},
		{"01010011", []int{1, 2, 2, 1, 1, 2, 2, 1}, []int{2, 2, 2, 2, 2, 2, 2, 2}, 6},
		{"00000001", []int{0, 0, 0, 1, 0, 1, 1, 3}, []int{1, 1, 1, 1, 1, 1, 1, 3}, 3},
		{"01101001", []int{3, 3, 3, 3, 3, 3, 3, 3}, []int{3, 3, 3, 3, 3, 3, 3, 3}, 12},
		{"01111110", []int{3, 1, 1, 1, 1, 1, 1, 3}, []int{3, 2, 2, 2, 2, 2, 2, 3}, 6},
		{"0000000011111111", slices.Repeat([]int{1}, 16), slices.Repeat([]int{1}, 16), 8},
		{"0001000100011111", []int{0, 1, 1, 2, 1, 2, 2, 2, 1, 2, 2, 2, 2, 2, 2, 0}, slices.Repeat([]int{2}, 16), 12},
		{"0001000000001000", []int{0, 1, 1, 4, 1, 0, 0, 1, 1, 0, 0, 1, 4, 1, 1, 0}, []int{2, 2, 2, 4, 2, 2, 2, 2, 2, 2, 2, 2, 4, 2, 2, 2}, 8},
		// The variables are in ascending or in descending order: blocks change more than single variables at all inputs.
		{"1101000110001011", slices.Repeat([]int{2}, 16), slices.Repeat([]int{3}, 16), 16},
	} {
		f, _ := impl.ParseTable(c.f)
		if got := sensitivities(f, impl.SensitivityAt); !slices.Equal(got, c.single) {
			t.Errorf("SensitivityAt(%s) = %v, want %v", c.f, got, c.single)
		}
		if got := sensitivities(f, impl.BlockSensitivityAt); !slices.Equal(got, c.blocks) {
			t.Errorf("BlockSensitivityAt(%s) = %v, want %v", c.f, got, c.blocks)
		}
		if impl.SensitivityOf(f) != slices.Max(c.single) || impl.BlockSensitivityOf(f) != slices.Max(c.blocks) {
			t.Errorf("SensitivityOf(%s) = %d, BlockSensitivityOf = %d", c.f, impl.SensitivityOf(f), impl.BlockSensitivityOf(f))
		}
		if got := impl.SensitiveEdges(f); got != c.edges {
			t.Errorf("SensitiveEdges(%s) = %d, want %d", c.f, got, c.edges)
		}
	}
}

// TestBlocksOfTables has minimal blocks of more than one variable.
func TestBlocksOfTables(t *testing.T) {
	for _, c := range []struct {
		f      string
		x      int
		blocks []int
		most   int
	}{
		{"01", 1, []int{1}, 1},
		{"0001", 0, []int{3}, 1},
		{"0001", 1, []int{2}, 1},
		{"0001", 3, []int{1, 2}, 2},
		{"0100", 2, []int{3}, 1},
		{"00010111", 7, []int{3, 5, 6}, 1},
		{"00010111", 3, []int{1, 2}, 2},
		{"00000001", 0, []int{7}, 1},
		{"01111110", 4, []int{3, 4}, 2},
		{"01111110", 2, []int{2, 5}, 2},
		{"01010011", 4, []int{2, 5}, 2},
		{"1101000110001011", 0, []int{2, 4, 9}, 3},
		{"1101000110001011", 15, []int{2, 4, 9}, 3},
		{"1101000110001011", 2, []int{1, 2, 12}, 3},
		{"0001000000001000", 0, []int{3, 12}, 2},
		{"0001000000001000", 1, []int{2, 13}, 2},
		{"0001000000001000", 5, []int{6, 9}, 2},
		{"0001000000001000", 12, []int{1, 2, 4, 8}, 4},
		{"0000000000000001", 0, []int{15}, 1},
		{"0000000000000001", 4, []int{11}, 1},
		{"0001000100011111", 15, []int{5, 6, 9, 10}, 2},
		// The first block shares a variable with each of the two others, which share none.
		{"0001010100110111", 0, []int{3, 5, 10}, 2},
	} {
		f, _ := impl.ParseTable(c.f)
		if got := minimalBlocks(t, f, c.x); !slices.Equal(got, c.blocks) {
			t.Errorf("MinimalBlocks(%s, %d) = %v, want %v", c.f, c.x, got, c.blocks)
		}
		if got := impl.BlockSensitivityAt(f, c.x); got != c.most {
			t.Errorf("BlockSensitivityAt(%s, %d) = %d, want %d", c.f, c.x, got, c.most)
		}
	}
}

// checkBlocksAt has expected blocks of a table of five variables.
func checkBlocksAt(t *testing.T, f impl.Table, x int, blocks []int, single, most int) {
	t.Helper()
	if got := minimalBlocks(t, f, x); !slices.Equal(got, blocks) {
		t.Errorf("MinimalBlocks(%v, %d) = %v, want %v", f, x, got, blocks)
	}
	if impl.SensitivityAt(f, x) != single || impl.BlockSensitivityAt(f, x) != most {
		t.Errorf("SensitivityAt(%v, %d) = %d, want %d, BlockSensitivityAt = %d, want %d", f, x, impl.SensitivityAt(f, x), single, impl.BlockSensitivityAt(f, x), most)
	}
}

func TestBlocksOfFiveVariables(t *testing.T) {
	each := []int{1, 2, 4, 8, 16}
	and := tableOf(5, func(bits []int) int { return slices.Min(bits) })
	parity := tableOf(5, func(bits []int) int { return sum(bits) % 2 })
	last := tableOf(5, func(bits []int) int { return bits[4] })
	majority := tableOf(5, func(bits []int) int { return sum(bits) / 3 })
	// The pairs 0 and 1, 1 and 2, and so on around.
	cycle := tableOf(5, func(bits []int) int {
		v := 0
		for i := range bits {
			v = max(v, min(bits[i], bits[(i+1)%5]))
		}
		return v
	})
	for x := range 31 {
		single := 0
		if slices.Contains(each, 31-x) {
			single = 1
		}
		checkBlocksAt(t, and, x, []int{31 - x}, single, 1)
	}
	checkBlocksAt(t, and, 31, each, 5, 5)
	for x := range 32 {
		checkBlocksAt(t, parity, x, each, 5, 5)
		checkBlocksAt(t, last, x, []int{16}, 1, 1)
	}
	checkBlocksAt(t, majority, 0, []int{7, 11, 13, 14, 19, 21, 22, 25, 26, 28}, 0, 1)
	checkBlocksAt(t, majority, 1, []int{6, 10, 12, 18, 20, 24}, 0, 2)
	checkBlocksAt(t, majority, 3, []int{4, 8, 16}, 3, 3)
	checkBlocksAt(t, majority, 7, []int{1, 2, 4}, 3, 3)
	checkBlocksAt(t, majority, 31, []int{7, 11, 13, 14, 19, 21, 22, 25, 26, 28}, 0, 1)
	checkBlocksAt(t, cycle, 0, []int{3, 6, 12, 17, 24}, 0, 2)
	checkBlocksAt(t, cycle, 31, []int{11, 13, 21, 22, 26}, 0, 1)
	checkBlocksAt(t, cycle, 5, []int{2, 8, 16}, 3, 3)
	for _, c := range []struct {
		f                     impl.Table
		single, blocks, edges int
	}{
		{and, 5, 5, 5},
		{parity, 5, 5, 80},
		{last, 1, 1, 16},
		{majority, 3, 3, 30},
		{impl.Table{Bits: 5, Word: 1}, 5, 5, 5},
		{impl.Table{Bits: 5, Word: 1 << 31}, 5, 5, 5},
		{impl.Table{Bits: 5, Word: 1<<32 - 2}, 5, 5, 5},
		{impl.Table{Bits: 5, Word: 1<<31 - 1}, 5, 5, 5},
		{impl.Table{Bits: 5, Word: 1<<16 - 1}, 1, 1, 16},
	} {
		if impl.SensitivityOf(c.f) != c.single || impl.BlockSensitivityOf(c.f) != c.blocks || impl.SensitiveEdges(c.f) != c.edges {
			t.Errorf("SensitivityOf(%v) = %d, BlockSensitivityOf = %d, SensitiveEdges = %d, want %d, %d, %d", c.f, impl.SensitivityOf(c.f), impl.BlockSensitivityOf(c.f), impl.SensitiveEdges(c.f), c.single, c.blocks, c.edges)
		}
	}
}

// TestConstantsHaveNoBlocks includes tables of no variables.
func TestConstantsHaveNoBlocks(t *testing.T) {
	for n := range impl.MaxBits + 1 {
		for _, f := range []impl.Table{{Bits: n}, {Bits: n, Word: 1<<(1<<n) - 1}} {
			for x := range 1 << n {
				if l, ok := impl.MinimalBlocks(f, x); len(l) != 0 || !ok {
					t.Errorf("MinimalBlocks(%v, %d) = %v, %v", f, x, l, ok)
				}
				if impl.SensitivityAt(f, x) != 0 || impl.BlockSensitivityAt(f, x) != 0 {
					t.Errorf("SensitivityAt(%v, %d) = %d, BlockSensitivityAt = %d", f, x, impl.SensitivityAt(f, x), impl.BlockSensitivityAt(f, x))
				}
				for set := range 1 << n {
					if impl.IsSensitiveBlock(f, x, set) {
						t.Errorf("IsSensitiveBlock(%v, %d, %d) = true", f, x, set)
					}
				}
			}
			if impl.SensitivityOf(f) != 0 || impl.BlockSensitivityOf(f) != 0 || impl.SensitiveEdges(f) != 0 {
				t.Errorf("SensitivityOf(%v) = %d, BlockSensitivityOf = %d, SensitiveEdges = %d", f, impl.SensitivityOf(f), impl.BlockSensitivityOf(f), impl.SensitiveEdges(f))
			}
		}
	}
}

// TestOnlyConstantsHaveNoBlocks has that all other tables have blocks at all inputs.
func TestOnlyConstantsHaveNoBlocks(t *testing.T) {
	for _, f := range sampleTables() {
		l := values(f)
		constant := slices.Min(l) == slices.Max(l)
		for x := range l {
			if (len(minimalBlocks(t, f, x)) == 0) != constant || (impl.BlockSensitivityAt(f, x) == 0) != constant {
				t.Fatalf("MinimalBlocks(%v, %d) = %v, BlockSensitivityAt = %d", f, x, minimalBlocks(t, f, x), impl.BlockSensitivityAt(f, x))
			}
		}
		if (impl.SensitivityOf(f) == 0) != constant || (impl.BlockSensitivityOf(f) == 0) != constant || (impl.SensitiveEdges(f) == 0) != constant {
			t.Fatalf("SensitivityOf(%v) = %d, BlockSensitivityOf = %d, SensitiveEdges = %d", f, impl.SensitivityOf(f), impl.BlockSensitivityOf(f), impl.SensitiveEdges(f))
		}
	}
}

// TestSensitivitiesOfUselessVariables adds a variable that does not matter at each place.
func TestSensitivitiesOfUselessVariables(t *testing.T) {
	s := tables{t}
	for n := range impl.MaxBits {
		for _, f := range tablesOf(n) {
			for i := range n + 1 {
				g := s.join(f, f, i)
				for x := range 1 << n {
					checkUselessBlocks(t, f, g, x, i)
				}
				if impl.SensitivityOf(g) != impl.SensitivityOf(f) || impl.BlockSensitivityOf(g) != impl.BlockSensitivityOf(f) || impl.SensitiveEdges(g) != 2*impl.SensitiveEdges(f) {
					t.Fatalf("SensitivityOf(%v) = %d, BlockSensitivityOf = %d, SensitiveEdges = %d, of %v %d, %d, %d", g, impl.SensitivityOf(g), impl.BlockSensitivityOf(g), impl.SensitiveEdges(g), f, impl.SensitivityOf(f), impl.BlockSensitivityOf(f), impl.SensitiveEdges(f))
				}
			}
		}
	}
}

func checkUselessBlocks(t *testing.T, f, g impl.Table, x, i int) {
	t.Helper()
	n := f.Bits
	var want []int
	for _, block := range minimalBlocks(t, f, x) {
		want = append(want, withBit(n, block, i, 0))
	}
	for b := range 2 {
		y := withBit(n, x, i, b)
		if got := minimalBlocks(t, g, y); !slices.Equal(got, want) {
			t.Fatalf("MinimalBlocks(%v, %d) = %v, want %v", g, y, got, want)
		}
		if impl.SensitivityAt(g, y) != impl.SensitivityAt(f, x) || impl.BlockSensitivityAt(g, y) != impl.BlockSensitivityAt(f, x) {
			t.Fatalf("SensitivityAt(%v, %d) = %d, BlockSensitivityAt = %d, of %v, %d %d, %d", g, y, impl.SensitivityAt(g, y), impl.BlockSensitivityAt(g, y), f, x, impl.SensitivityAt(f, x), impl.BlockSensitivityAt(f, x))
		}
		for set := range 1 << n {
			for in := range 2 {
				if longer := withBit(n, set, i, in); impl.IsSensitiveBlock(g, y, longer) != impl.IsSensitiveBlock(f, x, set) {
					t.Fatalf("IsSensitiveBlock(%v, %d, %d) = %v, of %v, %d, %d %v", g, y, longer, impl.IsSensitiveBlock(g, y, longer), f, x, set, impl.IsSensitiveBlock(f, x, set))
				}
			}
		}
	}
}

// TestBlocksHaveVariablesThatMatter has that each of these is in a minimal block somewhere, and no other one is.
func TestBlocksHaveVariablesThatMatter(t *testing.T) {
	for _, f := range sampleTables() {
		found := make([]int, f.Bits)
		for x := range 1 << f.Bits {
			for _, block := range minimalBlocks(t, f, x) {
				for i, b := range bitsOf(f.Bits, block) {
					found[i] = max(found[i], b)
				}
			}
		}
		for i, b := range found {
			if (b == 1) != matters(f, i) {
				t.Fatalf("MinimalBlocks(%v) have variable %d: %d", f, i, b)
			}
		}
	}
}

// checkSameAt has that g has at y the sensitivities and blocks that f has at x.
func checkSameAt(t *testing.T, g impl.Table, y int, f impl.Table, x int) {
	t.Helper()
	if impl.SensitivityAt(g, y) != impl.SensitivityAt(f, x) || impl.BlockSensitivityAt(g, y) != impl.BlockSensitivityAt(f, x) {
		t.Fatalf("SensitivityAt(%v, %d) = %d, BlockSensitivityAt = %d, of %v, %d %d, %d", g, y, impl.SensitivityAt(g, y), impl.BlockSensitivityAt(g, y), f, x, impl.SensitivityAt(f, x), impl.BlockSensitivityAt(f, x))
	}
	if got, want := minimalBlocks(t, g, y), minimalBlocks(t, f, x); !slices.Equal(got, want) {
		t.Fatalf("MinimalBlocks(%v, %d) = %v, of %v, %d %v", g, y, got, f, x, want)
	}
}

// checkSameOf has that both tables have the same greatest sensitivities and as many edges.
func checkSameOf(t *testing.T, g, f impl.Table) {
	t.Helper()
	if impl.SensitivityOf(g) != impl.SensitivityOf(f) || impl.BlockSensitivityOf(g) != impl.BlockSensitivityOf(f) || impl.SensitiveEdges(g) != impl.SensitiveEdges(f) {
		t.Fatalf("SensitivityOf(%v) = %d, BlockSensitivityOf = %d, SensitiveEdges = %d, of %v %d, %d, %d", g, impl.SensitivityOf(g), impl.BlockSensitivityOf(g), impl.SensitiveEdges(g), f, impl.SensitivityOf(f), impl.BlockSensitivityOf(f), impl.SensitiveEdges(f))
	}
}

func TestSensitivitiesOfNegations(t *testing.T) {
	for _, f := range sampleTables() {
		g, _ := impl.NotTable(f)
		for x := range 1 << f.Bits {
			checkSameAt(t, g, x, f, x)
		}
		checkSameOf(t, g, f)
	}
}

func TestSensitivitiesOfShifts(t *testing.T) {
	s := tables{t}
	for n := range 5 {
		for _, f := range tablesOf(n) {
			for shift := range 1 << n {
				g := s.shift(f, shift)
				for x := range 1 << n {
					checkSameAt(t, g, changed(n, x, shift), f, x)
				}
				checkSameOf(t, g, f)
			}
		}
	}
}

// permuted returns the input or set with what is at i moved to p[i].
func permuted(x int, p []int) int {
	l := make([]int, len(p))
	for i, b := range bitsOf(len(p), x) {
		l[p[i]] = b
	}
	return inputOf(l)
}

func TestSensitivitiesOfPermutations(t *testing.T) {
	s := tables{t}
	for n := range 4 {
		for _, f := range tablesOf(n) {
			for _, p := range orders(n) {
				g := s.permute(f, p)
				for x := range 1 << n {
					checkPermutedAt(t, g, f, x, p)
				}
				checkSameOf(t, g, f)
			}
		}
	}
}

func checkPermutedAt(t *testing.T, g, f impl.Table, x int, p []int) {
	t.Helper()
	y := permuted(x, p)
	if impl.SensitivityAt(g, y) != impl.SensitivityAt(f, x) || impl.BlockSensitivityAt(g, y) != impl.BlockSensitivityAt(f, x) {
		t.Fatalf("SensitivityAt(%v, %d) = %d, BlockSensitivityAt = %d, of %v, %d %d, %d", g, y, impl.SensitivityAt(g, y), impl.BlockSensitivityAt(g, y), f, x, impl.SensitivityAt(f, x), impl.BlockSensitivityAt(f, x))
	}
	var want []int
	for _, block := range minimalBlocks(t, f, x) {
		want = append(want, permuted(block, p))
	}
	slices.Sort(want)
	if got := minimalBlocks(t, g, y); !slices.Equal(got, want) {
		t.Fatalf("MinimalBlocks(%v, %d) = %v, want %v", g, y, got, want)
	}
}

// TestSensitivitiesOfMonotoneTables has that blocks do no more there than single variables, and certificates are as small.
func TestSensitivitiesOfMonotoneTables(t *testing.T) {
	count := 0
	for n := range 4 {
		for _, f := range allTables(n) {
			l := values(f)
			monotone := true
			for x := range l {
				for y := range l {
					monotone = monotone && !(isPart(x, y) && l[x] > l[y])
				}
			}
			if !monotone {
				continue
			}
			count++
			single, blocks, certificate := impl.SensitivityOf(f), impl.BlockSensitivityOf(f), max(impl.CertificateOf(f, 0), impl.CertificateOf(f, 1))
			if single != blocks || blocks != certificate {
				t.Fatalf("SensitivityOf(%v) = %d, BlockSensitivityOf = %d, CertificateOf = %d", f, single, blocks, certificate)
			}
		}
	}
	if count != 2+3+6+20 {
		t.Errorf("%d monotone tables", count)
	}
}

// TestBlockSensitivityBoundsTrees has that a tree asks for one variable of each block.
func TestBlockSensitivityBoundsTrees(t *testing.T) {
	for _, f := range playedTables() {
		s := bestTree(t, f)
		for x := range 1 << f.Bits {
			letters, _ := asked(s, bitsOf(f.Bits, x))
			set := 0
			for _, c := range letters {
				set += 1 << (c - 'a')
			}
			for _, block := range minimalBlocks(t, f, x) {
				if !haveCommon(block, set) {
					t.Fatalf("BestTree(%v) asks for %q at %d, MinimalBlocks has %d", f, letters, x, block)
				}
			}
			if got := impl.BlockSensitivityAt(f, x); got > len(letters) {
				t.Fatalf("BestTree(%v) asks for %q at %d, BlockSensitivityAt = %d", f, letters, x, got)
			}
		}
	}
}

// TestMinimalBlocksAreNewLists writes to one result, and has the next one unchanged.
func TestMinimalBlocksAreNewLists(t *testing.T) {
	for _, f := range sampleTables() {
		for x := range 1 << f.Bits {
			first := minimalBlocks(t, f, x)
			want := slices.Clone(first)
			second := minimalBlocks(t, f, x)
			for k := range first {
				first[k] = -1
			}
			if third := minimalBlocks(t, f, x); !slices.Equal(second, want) || !slices.Equal(third, want) {
				t.Fatalf("MinimalBlocks(%v, %d) = %v and %v, want %v", f, x, second, third, want)
			}
		}
	}
}

// checkNoBlocks has the functions fail for an input, whichever block is asked for.
func checkNoBlocks(t *testing.T, f impl.Table, x int) {
	t.Helper()
	if l, ok := impl.MinimalBlocks(f, x); len(l) != 0 || ok {
		t.Errorf("MinimalBlocks(%v, %d) = %v, %v", f, x, l, ok)
	}
	if impl.SensitivityAt(f, x) != -1 || impl.BlockSensitivityAt(f, x) != -1 {
		t.Errorf("SensitivityAt(%v, %d) = %d, BlockSensitivityAt = %d", f, x, impl.SensitivityAt(f, x), impl.BlockSensitivityAt(f, x))
	}
	for _, block := range []int{math.MinInt, -1, 0, 1, 2, 3, 7, 15, 16, 31, 32, 63, math.MaxInt} {
		if impl.IsSensitiveBlock(f, x, block) {
			t.Errorf("IsSensitiveBlock(%v, %d, %d) = true", f, x, block)
		}
	}
}

func TestSensitivitiesRejectTables(t *testing.T) {
	for _, f := range notTables() {
		for _, x := range append([]int{0, 1, 2, 15, 31}, outOfRange...) {
			checkNoBlocks(t, f, x)
		}
		if impl.SensitivityOf(f) != -1 || impl.BlockSensitivityOf(f) != -1 || impl.SensitiveEdges(f) != -1 {
			t.Errorf("SensitivityOf(%v) = %d, BlockSensitivityOf = %d, SensitiveEdges = %d", f, impl.SensitivityOf(f), impl.BlockSensitivityOf(f), impl.SensitiveEdges(f))
		}
	}
}

func TestSensitivitiesRejectInputs(t *testing.T) {
	for n := range impl.MaxBits + 1 {
		for _, f := range someTables(n) {
			for _, x := range append(outOfRange, 1<<n, 1<<n+1, 2<<n-1, 2<<n, 3<<n, -1<<n, -1<<n|1) {
				checkNoBlocks(t, f, x)
			}
		}
	}
}

func TestIsSensitiveBlockRejectsSets(t *testing.T) {
	for n := range impl.MaxBits + 1 {
		for _, f := range someTables(n) {
			for x := range 1 << n {
				for _, block := range append(outOfRange, 1<<n, 1<<n+1, 2<<n-1, 2<<n, 3<<n, -1<<n, -1<<n|1) {
					if impl.IsSensitiveBlock(f, x, block) {
						t.Errorf("IsSensitiveBlock(%v, %d, %d) = true", f, x, block)
					}
				}
			}
		}
	}
}
