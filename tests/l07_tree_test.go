package tests

import (
	"math"
	"math/rand"
	"slices"
	"strings"
	"testing"

	"loop.example/g03403/impl"
)

// behind returns the position behind the tree that starts at p: a letter needs one tree more, a value one less.
func behind(s string, p int) int {
	for need := 1; need > 0; p++ {
		if s[p] >= 'a' {
			need++
		} else {
			need--
		}
	}
	return p
}

// asked returns the letters that a tree asks for an input with these variables, and the value.
func asked(s string, bits []int) (string, int) {
	p, letters := 0, ""
	for s[p] >= 'a' {
		letters += s[p : p+1]
		next := p + 1
		if bits[s[p]-'a'] == 1 {
			next = behind(s, next)
		}
		p = next
	}
	return letters, int(s[p] - '0')
}

// isWrittenTree reads a tree from its end, with the letters of the trees that are still open on a stack.
func isWrittenTree(s string) bool {
	var open []string
	for p := len(s) - 1; p >= 0; p-- {
		last := len(open) - 1
		switch c := s[p]; {
		case c == '0' || c == '1':
			open = append(open, "")
		case c >= 'a' && c <= 'e' && last >= 1 && strings.IndexByte(open[last]+open[last-1], c) < 0:
			open = append(open[:last-1], open[last]+open[last-1]+string(c))
		default:
			return false
		}
	}
	return len(open) == 1
}

// treesOf returns all trees of these letters: 2, 6, 74 and 16430 for 0 to 3 letters.
func treesOf(letters string) []string {
	l := []string{"0", "1"}
	for i := range letters {
		rest := treesOf(letters[:i] + letters[i+1:])
		for _, s := range rest {
			for _, u := range rest {
				l = append(l, letters[i:i+1]+s+u)
			}
		}
	}
	return l
}

// randomTree returns a tree of these letters that ends early at one of so many places; for 0 it asks all letters for all inputs.
func randomTree(r *rand.Rand, letters string, end int) string {
	if letters == "" || end > 0 && r.Intn(end) == 0 {
		return "01"[r.Intn(2):][:1]
	}
	i := r.Intn(len(letters))
	rest := letters[:i] + letters[i+1:]
	return letters[i:i+1] + randomTree(r, rest, end) + randomTree(r, rest, end)
}

// someTrees returns all trees of two letters, and random ones of more, the longest of 63 bytes.
func someTrees() []string {
	l := append(append(treesOf("ab"), treesOf("be")...), treesOf("cd")...)
	r := rand.New(rand.NewSource(7))
	for _, letters := range []string{"abc", "bde", "abcd", "abcde"} {
		for _, end := range []int{0, 3, 5, 9} {
			for range 25 {
				l = append(l, randomTree(r, letters, end))
			}
		}
	}
	return l
}

// checkNoTree checks the results of all functions for a text that is no tree.
func checkNoTree(t *testing.T, s string) {
	t.Helper()
	if impl.IsTree(s) || impl.DepthOfTree(s) != -1 {
		t.Fatalf("IsTree(%.80q) = %v, DepthOfTree = %d", s, impl.IsTree(s), impl.DepthOfTree(s))
	}
	for n := -1; n <= 6; n++ {
		if f, ok := impl.TableOfTree(s, n); ok || f != (impl.Table{}) {
			t.Fatalf("TableOfTree(%.80q, %d) = %v, %v", s, n, f, ok)
		}
		if sum := impl.AverageOf(s, n); sum != -1 {
			t.Fatalf("AverageOf(%.80q, %d) = %d", s, n, sum)
		}
	}
	for _, x := range []int{-1, 0, 1, 31, 32} {
		if q := impl.QueriesOf(s, x); q != -1 {
			t.Fatalf("QueriesOf(%.80q, %d) = %d", s, x, q)
		}
	}
}

// checkTree checks the results of all functions for a tree, by following the answers for each input.
func checkTree(t *testing.T, s string) {
	t.Helper()
	if !isWrittenTree(s) || !impl.IsTree(s) {
		t.Fatalf("IsTree(%q) = %v, want %v", s, impl.IsTree(s), isWrittenTree(s))
	}
	depth := 0
	for x := range 32 {
		letters, _ := asked(s, bitsOf(5, x))
		if q := impl.QueriesOf(s, x); q != len(letters) {
			t.Fatalf("QueriesOf(%q, %d) = %d, want the number of %s", s, x, q, letters)
		}
		depth = max(depth, len(letters))
	}
	if d := impl.DepthOfTree(s); d != depth {
		t.Fatalf("DepthOfTree(%q) = %d, want %d", s, d, depth)
	}
	for _, x := range outOfRange {
		if q := impl.QueriesOf(s, x); q != -1 {
			t.Fatalf("QueriesOf(%q, %d) = %d", s, x, q)
		}
	}
	least, _ := lettersIn(s)
	for n := -2; n <= 7; n++ {
		valid, f, sum := n >= least && n <= 5, impl.Table{}, -1
		if valid {
			sum = 0
			f = tableOf(n, func(bits []int) int {
				letters, v := asked(s, bits)
				sum += len(letters)
				return v
			})
		}
		if got, ok := impl.TableOfTree(s, n); ok != valid || got != f {
			t.Fatalf("TableOfTree(%q, %d) = %v, %v, want %v, %v", s, n, got, ok, f, valid)
		}
		if got := impl.AverageOf(s, n); got != sum {
			t.Fatalf("AverageOf(%q, %d) = %d, want %d", s, n, got, sum)
		}
	}
}

// treeTable fails the test where TableOfTree returns false.
func treeTable(t *testing.T, s string, n int) impl.Table {
	t.Helper()
	f, ok := impl.TableOfTree(s, n)
	return tables{t}.checked(f, ok, n, "TableOfTree", s, n)
}

func bestTree(t *testing.T, f impl.Table) string {
	t.Helper()
	s, ok := impl.BestTree(f)
	if !ok || !impl.IsTree(s) {
		t.Fatalf("BestTree(%v) = %q, %v", f, s, ok)
	}
	return s
}

// answered returns the table of as many variables in which variable i does not matter: it has the values for b.
func answered(f impl.Table, i, b int) impl.Table {
	return tableOf(f.Bits, func(bits []int) int {
		bits[i] = b
		return valueOf(f, bits)
	})
}

// leastTrees has, for each Word of n variables, the least depth and the least sum of queries of all trees.
type leastTrees struct{ depth, sum []int }

// leastOfAll tries all trees, for at most 3 variables.
func leastOfAll(n int) leastTrees {
	l := leastTrees{make([]int, 1<<(1<<n)), make([]int, 1<<(1<<n))}
	for w := range l.depth {
		l.depth[w], l.sum[w] = math.MaxInt, math.MaxInt
	}
	for _, s := range treesOf("abc"[:n]) {
		depth, sum := 0, 0
		f := tableOf(n, func(bits []int) int {
			letters, v := asked(s, bits)
			depth, sum = max(depth, len(letters)), sum+len(letters)
			return v
		})
		l.depth[f.Word], l.sum[f.Word] = min(l.depth[f.Word], depth), min(l.sum[f.Word], sum)
	}
	return l
}

// joined returns the word of four variables with the values of f where variable i is 0 and those of g where it is 1.
func joined(f, g, i int) int {
	w := 0
	for x := range 16 {
		bits := bitsOf(4, x)
		b := bits[i]
		w += []int{f, g}[b] >> inputOf(slices.Delete(bits, i, i+1)) & 1 << x
	}
	return w
}

// leastOfFour tries all first letters of four, with the best of all trees of the other three for either answer.
func leastOfFour() leastTrees {
	three := leastOfAll(3)
	l := leastTrees{make([]int, 1<<16), make([]int, 1<<16)}
	for w := range l.depth {
		l.depth[w], l.sum[w] = math.MaxInt, math.MaxInt
	}
	for _, w := range []int{0, 1<<16 - 1} {
		l.depth[w], l.sum[w] = 0, 0
	}
	for i := range 4 {
		// The inputs of either answer, by those of the other variables.
		var places [2][256]int
		for f := range 256 {
			places[0][f], places[1][f] = joined(f, 0, i), joined(0, f, i)
		}
		for f := range 256 {
			for g := range 256 {
				w := places[0][f] + places[1][g]
				l.depth[w] = min(l.depth[w], 1+max(three.depth[f], three.depth[g]))
				l.sum[w] = min(l.sum[w], 16+three.sum[f]+three.sum[g])
			}
		}
	}
	return l
}

// wantTree returns the tree of the document's rule for the first letter, where l has the least depths.
func wantTree(f impl.Table, l leastTrees) string {
	switch f.Word {
	case 0:
		return "0"
	case 1<<(1<<f.Bits) - 1:
		return "1"
	}
	for i := range f.Bits {
		zero, one := answered(f, i, 0), answered(f, i, 1)
		if l.depth[zero.Word] < l.depth[f.Word] && l.depth[one.Word] < l.depth[f.Word] {
			return "abcde"[i:i+1] + wantTree(zero, l) + wantTree(one, l)
		}
	}
	return ""
}

// checkBest checks the results for one table against the least of all trees.
func checkBest(t *testing.T, f impl.Table, l leastTrees) {
	t.Helper()
	depth, sum := l.depth[f.Word], l.sum[f.Word]
	if d := impl.LeastDepth(f); d != depth {
		t.Fatalf("LeastDepth(%v) = %d, want %d", f, d, depth)
	}
	if got := impl.LeastAverage(f); got != sum {
		t.Fatalf("LeastAverage(%v) = %d, want %d", f, got, sum)
	}
	s := bestTree(t, f)
	if got := treeTable(t, s, f.Bits); got != f {
		t.Fatalf("BestTree(%v) = %q with the table %v", f, s, got)
	}
	if d := impl.DepthOfTree(s); d != depth {
		t.Fatalf("BestTree(%v) = %q of depth %d, want %d", f, s, d, depth)
	}
	if got := impl.AverageOf(s, f.Bits); got < sum {
		t.Fatalf("BestTree(%v) = %q of average %d, less than %d", f, s, got, sum)
	}
	if want := wantTree(f, l); s != want {
		t.Fatalf("BestTree(%v) = %q, want %q", f, s, want)
	}
}

func TestTreesAreTheWrittenOnes(t *testing.T) {
	count := 0
	for _, s := range append(stringsUpTo("ab01", 7), stringsUpTo("ae0f", 5)...) {
		if isWrittenTree(s) {
			checkTree(t, s)
			count++
		} else {
			checkNoTree(t, s)
		}
	}
	// Two letters have 74 trees, of which 2, 8 and 32 have 0, 1 and 2 letters a or b; a and e with 0 alone have fewer.
	written := map[string]bool{}
	for _, s := range append(treesOf("ab"), "0", "a00", "e00", "ae000", "a0e00", "ea000", "e0a00") {
		written[s] = true
	}
	for s := range written {
		if !impl.IsTree(s) {
			t.Errorf("IsTree(%q) is false", s)
		}
	}
	if count != 74+7 {
		t.Errorf("%d of the short strings are trees", count)
	}
}

func TestTreesAreFollowed(t *testing.T) {
	for _, s := range someTrees() {
		checkTree(t, s)
	}
	for k, s := range treesOf("abc") {
		if k%7 == 0 {
			checkTree(t, s)
		}
	}
}

func TestTreesOfTables(t *testing.T) {
	for _, c := range []struct {
		s, table      string
		n, depth, sum int
	}{
		{"ab01b10", "0110", 2, 2, 8},
		{"a0b01", "0001", 2, 2, 6},
		{"b01", "0011", 2, 1, 4},
		{"b10", "1100", 2, 1, 4},
		{"b00", "0000", 2, 1, 4},
		{"a01", "01", 1, 1, 2},
		{"a10", "1010", 2, 1, 4},
		{"ab01c01", "00100111", 3, 2, 16},
		{"ca01b01", "01010011", 3, 2, 16},
		{"ab0c01bc011", "00010111", 3, 3, 20},
		{"a0b0c0d0e01", strings.Repeat("0", 31) + "1", 5, 5, 62},
		{"e01", strings.Repeat("0", 16) + strings.Repeat("1", 16), 5, 1, 32},
	} {
		checkTree(t, c.s)
		want, _ := impl.ParseTable(c.table)
		if f := treeTable(t, c.s, c.n); f != want {
			t.Errorf("TableOfTree(%q, %d) = %s, want %s", c.s, c.n, impl.FormatTable(f), c.table)
		}
		if d, sum := impl.DepthOfTree(c.s), impl.AverageOf(c.s, c.n); d != c.depth || sum != c.sum {
			t.Errorf("DepthOfTree(%q) = %d, AverageOf = %d, want %d and %d", c.s, d, sum, c.depth, c.sum)
		}
	}
}

func TestTreesReject(t *testing.T) {
	for _, s := range []string{
		"", "a", "e", "a0", "a1", "ab", "ab0", "ab01", "ab01b1", "a0b0", "a0b",
		"00", "01", "10", "11", "0a", "0a01", "a011", "a01a", "a01b01", "ab01b100", "a0b01c01",
		"aa010", "a0a01", "aa01a10", "ab0a01b01", "ab01b0a01", "a0b0a01", "aba0101", "abc0a0101", "abcdea01010101", "ab0c0d0e0a010", "ba0b011",
		"f", "f01", "A01", "a0f01", "af010", "a0B01", "`01", "_01", "z01", "2", "a02", "a20", "a0/", "a0:", "!a01", "a!01", "&ab", "|a0", "(a01)", "-1", "+1", "x", "é", "é01", "aé1", "１", "а01",
		" ", " 0", "0 ", "a01 ", " a01", "a 01", "a0 1", "a01\n", "\na01", "0\n", "\x000", "0\x00", "\x00", "\x01", "a\x000", "a0\x01", "a\x00\x01", "\xff", "a01\xff", "a\x800", "0\x80",
	} {
		checkNoTree(t, s)
	}
	for b := range 256 {
		s := string([]byte{byte(b)})
		if strings.Contains("01", s) {
			checkTree(t, s)
		} else {
			checkNoTree(t, s)
		}
		if !strings.Contains("abcde", s) {
			checkNoTree(t, s+"01")
			checkNoTree(t, "a0"+s+"01")
		}
		if !strings.Contains("01", s) {
			checkNoTree(t, "a"+s+"1")
			checkNoTree(t, "ab01b1"+s)
		}
		checkNoTree(t, "0"+s)
		checkNoTree(t, "a01"+s)
	}
}

// TestLettersOccurInBothAnswers has letters twice, but not below themselves, and puts a letter below itself at each place.
func TestLettersOccurInBothAnswers(t *testing.T) {
	for _, s := range []string{"ab01b10", "ab01b01", "ab0c01b0c01", "abc01d01bc01d01", "abc010bc010"} {
		checkTree(t, s)
	}
	for _, s := range someTrees() {
		for p := range s {
			if s[p] >= 'a' {
				continue
			}
			above := map[byte]bool{}
			for q := range p {
				if s[q] >= 'a' && behind(s, q) > p {
					above[s[q]] = true
				}
			}
			for _, c := range "abcde" {
				u := s[:p] + string(c) + "01" + s[p+1:]
				if above[byte(c)] {
					checkNoTree(t, u)
				} else if !impl.IsTree(u) {
					t.Fatalf("IsTree(%q) is false", u)
				}
			}
		}
	}
}

// TestPartsOfTrees cuts bytes off at either end of trees, and puts others behind them.
func TestPartsOfTrees(t *testing.T) {
	for _, s := range someTrees() {
		for k := range len(s) {
			checkNoTree(t, s[:k])
			if !isWrittenTree(s[k:]) {
				checkNoTree(t, s[k:])
			}
		}
		for _, tail := range append([]string{"1", "a", "a01", s, " ", "f"}, tails[1:]...) {
			checkNoTree(t, s+tail)
		}
	}
}

func TestLongTrees(t *testing.T) {
	full := "01"
	for _, c := range []string{"e", "d", "c", "b", "a"} {
		if c == "e" {
			full = c + full
		} else {
			full = c + full + full
		}
	}
	checkTree(t, full)
	if len(full) != 63 || impl.DepthOfTree(full) != 5 || impl.AverageOf(full, 5) != 160 {
		t.Errorf("%q has depth %d and average %d", full, impl.DepthOfTree(full), impl.AverageOf(full, 5))
	}
	if f, _ := impl.VariableTable(5, 4); treeTable(t, full, 5) != f {
		t.Errorf("TableOfTree(%q, 5) = %v", full, treeTable(t, full, 5))
	}
	for _, s := range []string{"0", "1", "a", "e", "ab", "abcde", "a0", "a01", "ab01b10", full, "\x00", "f", "é"} {
		checkNoTree(t, strings.Repeat(s, 2))
		checkNoTree(t, strings.Repeat(s, 100000))
		checkNoTree(t, full+strings.Repeat(s, 100000))
		checkNoTree(t, full[:62]+strings.Repeat(s, 100000)+"0")
	}
}

func TestTableOfTreeRejectsNumbersOfVariables(t *testing.T) {
	for _, s := range []string{"0", "1", "a01", "a0b01", "e01", "ab01b10"} {
		for _, n := range []int{math.MinInt, math.MinInt + 1, -64, -6, -5, -1, 6, 7, 8, 31, 32, 33, 63, 64, 65, 1 << 32, math.MaxInt} {
			if f, ok := impl.TableOfTree(s, n); ok || f != (impl.Table{}) {
				t.Errorf("TableOfTree(%q, %d) = %v, %v", s, n, f, ok)
			}
			if sum := impl.AverageOf(s, n); sum != -1 {
				t.Errorf("AverageOf(%q, %d) = %d", s, n, sum)
			}
		}
	}
}

// TestTreesOfLetters has letters that are a variable for some numbers of variables only.
func TestTreesOfLetters(t *testing.T) {
	for n := range 6 {
		for i := range 5 {
			c := "abcde"[i : i+1]
			want, valid := impl.VariableTable(n, i)
			if f, ok := impl.TableOfTree(c+"01", n); f != want || ok != valid {
				t.Errorf("TableOfTree(%q, %d) = %v, %v, want %v, %v", c+"01", n, f, ok, want, valid)
			}
			sum := -1
			if valid {
				sum = 1 << n
			}
			if got := impl.AverageOf(c+"01", n); got != sum {
				t.Errorf("AverageOf(%q, %d) = %d, want %d", c+"01", n, got, sum)
			}
		}
	}
}

// TestBestOfAllTrees compares, for all tables of at most 3 variables, the results with all trees of these letters.
func TestBestOfAllTrees(t *testing.T) {
	for n := range 4 {
		l := leastOfAll(n)
		for _, f := range allTables(n) {
			checkBest(t, f, l)
		}
	}
}

func TestBestTreesOfFourVariables(t *testing.T) {
	l := leastOfFour()
	for w := range l.depth {
		f := impl.Table{Bits: 4, Word: w}
		if d := impl.LeastDepth(f); d != l.depth[w] {
			t.Fatalf("LeastDepth(%v) = %d, want %d", f, d, l.depth[w])
		}
		if w%23 == 0 {
			checkBest(t, f, l)
		}
	}
	for _, f := range someTables(4) {
		checkBest(t, f, l)
	}
}

// TestLeastDepthIsNotExceeded makes all tables of four variables from trees of each depth.
func TestLeastDepthIsNotExceeded(t *testing.T) {
	depths := map[int]int{0: 0, 1<<16 - 1: 0}
	for depth := 1; depth <= 2; depth++ {
		var below []int
		for w := range depths {
			below = append(below, w)
		}
		for i := range 4 {
			x, _ := impl.VariableTable(4, i)
			for _, f := range below {
				for _, g := range below {
					w := f&^x.Word | g&x.Word
					if _, found := depths[w]; !found {
						depths[w] = depth
					}
				}
			}
		}
	}
	for w := range 1 << 16 {
		depth, found := depths[w]
		if !found {
			depth = 3
		}
		d := impl.LeastDepth(impl.Table{Bits: 4, Word: w})
		if found && d != depth || !found && d < depth {
			t.Fatalf("LeastDepth of %d of four variables is %d, want %d", w, d, depth)
		}
	}
}

func TestBestTreesOfTables(t *testing.T) {
	for _, c := range []struct {
		f, s       string
		depth, sum int
	}{
		{"0", "0", 0, 0},
		{"1", "1", 0, 0},
		{"11", "1", 0, 0},
		{"01", "a01", 1, 2},
		{"10", "a10", 1, 2},
		{"0011", "b01", 1, 4},
		{"0101", "a01", 1, 4},
		{"0110", "ab01b10", 2, 8},
		{"1001", "ab10b01", 2, 8},
		{"0001", "a0b01", 2, 6},
		{"0111", "ab011", 2, 6},
		{"0010", "ab010", 2, 6},
		{"01010011", "ca01b01", 2, 16},
		{"00011011", "ac01b01", 2, 16},
		{"00010111", "ab0c01bc011", 3, 20},
		{"01101001", "abc01c10bc10c01", 3, 24},
		{"00000001", "a0b0c01", 3, 14},
		{"00110011", "b01", 1, 8},
		{"0001000000000000", "a0b0cd100", 4, 30},
	} {
		f, ok := impl.ParseTable(c.f)
		if !ok {
			t.Fatalf("%s is no table", c.f)
		}
		if s := bestTree(t, f); s != c.s {
			t.Errorf("BestTree of %s is %s, want %s", c.f, s, c.s)
		}
		if d, sum := impl.LeastDepth(f), impl.LeastAverage(f); d != c.depth || sum != c.sum {
			t.Errorf("LeastDepth of %s is %d, LeastAverage %d, want %d and %d", c.f, d, sum, c.depth, c.sum)
		}
	}
}

// TestLeastAverageOfOtherTrees has a table of which another tree than BestTree asks less on average: c alone settles half of the inputs, but no first letter saves a question at worst.
func TestLeastAverageOfOtherTrees(t *testing.T) {
	f := treeTable(t, "c0ab01b10", 3)
	if s := bestTree(t, f); s != "ab0c01bc010" || impl.AverageOf(s, 3) != 20 {
		t.Errorf("BestTree(%v) = %q of average %d", f, s, impl.AverageOf(s, 3))
	}
	if impl.AverageOf("c0ab01b10", 3) != 16 || impl.LeastAverage(f) != 16 {
		t.Errorf("LeastAverage(%v) = %d, AverageOf is %d", f, impl.LeastAverage(f), impl.AverageOf("c0ab01b10", 3))
	}
}

// TestValueAlone has the trees without letters, for all numbers of variables, and the constants.
func TestValueAlone(t *testing.T) {
	for v, s := range []string{"0", "1"} {
		checkTree(t, s)
		if !impl.IsTree(s) || impl.DepthOfTree(s) != 0 {
			t.Errorf("IsTree(%q) = %v, DepthOfTree = %d", s, impl.IsTree(s), impl.DepthOfTree(s))
		}
		for x := range 32 {
			if q := impl.QueriesOf(s, x); q != 0 {
				t.Errorf("QueriesOf(%q, %d) = %d", s, x, q)
			}
		}
		for n := range 6 {
			want := impl.Table{Bits: n, Word: v * (1<<(1<<n) - 1)}
			if f := treeTable(t, s, n); f != want {
				t.Errorf("TableOfTree(%q, %d) = %v", s, n, f)
			}
			if sum := impl.AverageOf(s, n); sum != 0 {
				t.Errorf("AverageOf(%q, %d) = %d", s, n, sum)
			}
			if n == 5 {
				continue
			}
			if got := bestTree(t, want); got != s {
				t.Errorf("BestTree(%v) = %q", want, got)
			}
			if d, sum := impl.LeastDepth(want), impl.LeastAverage(want); d != 0 || sum != 0 {
				t.Errorf("LeastDepth(%v) = %d, LeastAverage = %d", want, d, sum)
			}
		}
	}
	// Only the constants have trees without letters.
	for n := range 4 {
		for _, f := range allTables(n) {
			constant := len(mattering(f)) == 0
			if (impl.LeastDepth(f) == 0) != constant || (impl.LeastAverage(f) == 0) != constant || (len(bestTree(t, f)) == 1) != constant {
				t.Errorf("LeastDepth(%v) = %d, LeastAverage = %d, BestTree = %q", f, impl.LeastDepth(f), impl.LeastAverage(f), bestTree(t, f))
			}
		}
	}
}

// TestBestTreesAskForVariablesThatMatter adds a variable that does not matter at each place.
func TestBestTreesAskForVariablesThatMatter(t *testing.T) {
	s := tables{t}
	for n := range 4 {
		for _, f := range tablesOf(n) {
			for i := range n + 1 {
				g := s.join(f, f, i)
				if impl.LeastDepth(g) != impl.LeastDepth(f) || impl.LeastAverage(g) != 2*impl.LeastAverage(f) {
					t.Fatalf("LeastDepth(%v) = %d, LeastAverage = %d, of %v %d and %d", g, impl.LeastDepth(g), impl.LeastAverage(g), f, impl.LeastDepth(f), impl.LeastAverage(f))
				}
				want := strings.Map(func(c rune) rune {
					if c >= 'a'+rune(i) {
						c++
					}
					return c
				}, bestTree(t, f))
				if got := bestTree(t, g); got != want {
					t.Fatalf("BestTree(%v) = %q, want %q", g, got, want)
				}
			}
		}
	}
	for _, f := range append(allTables(3), someTables(4)...) {
		for i, c := range []string{"a", "b", "c", "d"} {
			matters := slices.Contains(mattering(f), i)
			if found := strings.Contains(bestTree(t, f), c); found != matters {
				t.Fatalf("BestTree(%v) = %q, though %s matters: %v", f, bestTree(t, f), c, matters)
			}
		}
	}
}

// TestBestTreesOfAlikeTables has tables of one class: only their letters and answers differ.
func TestBestTreesOfAlikeTables(t *testing.T) {
	for n := range 4 {
		for _, f := range tablesOf(n) {
			depth, sum := impl.LeastDepth(f), impl.LeastAverage(f)
			for _, g := range made(t, f) {
				if impl.LeastDepth(g) != depth || impl.LeastAverage(g) != sum {
					t.Fatalf("LeastDepth(%v) = %d, LeastAverage = %d, of %v %d and %d", g, impl.LeastDepth(g), impl.LeastAverage(g), f, depth, sum)
				}
			}
		}
	}
}

// TestBestTreesOfParity has tables that need all variables for all inputs, and tables that need all of them at worst only.
func TestBestTreesOfParity(t *testing.T) {
	for n := range 5 {
		parity := tableOf(n, func(bits []int) int {
			sum := 0
			for _, b := range bits {
				sum += b
			}
			return sum % 2
		})
		if d, sum := impl.LeastDepth(parity), impl.LeastAverage(parity); d != n || sum != n*(1<<n) || len(bestTree(t, parity)) != 2*(1<<n)-1 {
			t.Errorf("LeastDepth(%v) = %d, LeastAverage = %d, BestTree = %q", parity, d, sum, bestTree(t, parity))
		}
		all := impl.Table{Bits: n, Word: 1 << (1<<n - 1)}
		want := "1"
		for i := range n {
			want = "abcd"[n-1-i:][:1] + "0" + want
		}
		if d, sum := impl.LeastDepth(all), impl.LeastAverage(all); d != n || sum != 2*(1<<n)-2 || bestTree(t, all) != want {
			t.Errorf("LeastDepth(%v) = %d, LeastAverage = %d, BestTree = %q, want %q", all, d, sum, bestTree(t, all), want)
		}
	}
}

// TestFiveVariablesHaveNoBestTree has tables and trees of five variables: trees are read, but none is found.
func TestFiveVariablesHaveNoBestTree(t *testing.T) {
	l := append(someTables(5), impl.Table{Bits: 5, Word: 1<<32 - 1})
	for i := range 5 {
		f, _ := impl.VariableTable(5, i)
		l = append(l, f)
	}
	for _, f := range append(l, notTables()...) {
		if s, ok := impl.BestTree(f); ok || s != "" {
			t.Errorf("BestTree(%v) = %q, %v", f, s, ok)
		}
		if d, sum := impl.LeastDepth(f), impl.LeastAverage(f); d != -1 || sum != -1 {
			t.Errorf("LeastDepth(%v) = %d, LeastAverage = %d", f, d, sum)
		}
	}
	r := rand.New(rand.NewSource(8))
	for range 200 {
		s := randomTree(r, "abcde", 0)
		checkTree(t, s)
		f := treeTable(t, s, 5)
		for x, v := range values(f) {
			if letters, value := asked(s, bitsOf(5, x)); v != value || len(letters) != 5 {
				t.Fatalf("TableOfTree(%q, 5) = %v", s, f)
			}
		}
	}
}

// TestDepthIsGreatestQueries has the functions of one tree against each other.
func TestDepthIsGreatestQueries(t *testing.T) {
	for _, s := range append(someTrees(), treesOf("ace")...) {
		depth, sum := 0, 0
		for x := range 32 {
			q := impl.QueriesOf(s, x)
			depth, sum = max(depth, q), sum+q
		}
		if impl.DepthOfTree(s) != depth || impl.AverageOf(s, 5) != sum {
			t.Fatalf("DepthOfTree(%q) = %d, AverageOf = %d, want %d and %d", s, impl.DepthOfTree(s), impl.AverageOf(s, 5), depth, sum)
		}
	}
}

// TestTreesDoNotBeatTheLeast compares trees of four variables with the least of all trees with their tables.
func TestTreesDoNotBeatTheLeast(t *testing.T) {
	r := rand.New(rand.NewSource(9))
	for _, end := range []int{0, 3, 5, 9} {
		for range 500 {
			s := randomTree(r, "abcd", end)
			f := treeTable(t, s, 4)
			if impl.DepthOfTree(s) < impl.LeastDepth(f) || impl.AverageOf(s, 4) < impl.LeastAverage(f) {
				t.Fatalf("%q has depth %d and average %d, LeastDepth(%v) = %d, LeastAverage = %d", s, impl.DepthOfTree(s), impl.AverageOf(s, 4), f, impl.LeastDepth(f), impl.LeastAverage(f))
			}
		}
	}
}
