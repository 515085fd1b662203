package tests

import (
	"math"
	"slices"
	"strings"
	"testing"

	"loop.example/g03403/impl"
)

// answered returns the cube that knows variable i as well.
func (c cube) answered(i, b int) cube {
	d := slices.Clone(c)
	d[i] = b
	return d
}

// settles reports whether all inputs with these variables have one value.
func (c cube) settles(f impl.Table) bool {
	found := map[int]bool{}
	for x, v := range values(f) {
		if c.holds(bitsOf(f.Bits, x)) {
			found[v] = true
		}
	}
	return len(found) == 1
}

// forced has how many variables have to be asked at worst, by what is known as Mask and Value.
type forced map[impl.Term]int

// forcedOf tries all variables that are left, with both answers, for each cube.
func forcedOf(f impl.Table) forced {
	l := forced{}
	for _, c := range cubesOf(f.Bits) {
		l.find(f, c)
	}
	return l
}

func (l forced) find(f impl.Table, c cube) int {
	if n, found := l[c.term()]; found {
		return n
	}
	n := math.MaxInt
	if c.settles(f) {
		n = 0
	}
	for i, v := range c {
		if n > 0 && v == 2 {
			n = min(n, 1+max(l.find(f, c.answered(i, 0)), l.find(f, c.answered(i, 1))))
		}
	}
	l[c.term()] = n
	return n
}

// answer returns what the adversary answers for variable i where c is known.
func (l forced) answer(c cube, i int) int {
	if l[c.answered(i, 1).term()] > l[c.answered(i, 0).term()] {
		return 1
	}
	return 0
}

// question returns the least variable that leaves less to ask for both answers; -1 if the value is known.
func (l forced) question(c cube) int {
	for i, v := range c {
		n := l[c.term()]
		if v == 2 && l[c.answered(i, 0).term()] < n && l[c.answered(i, 1).term()] < n {
			return i
		}
	}
	return -1
}

// nothing is the cube of n variables that knows none of them.
func nothing(n int) cube {
	return slices.Repeat(cube{2}, n)
}

// playedTables returns all tables of at most 3 variables, and some of four.
func playedTables() []impl.Table {
	var l []impl.Table
	for n := range 5 {
		l = append(l, tablesOf(n)...)
	}
	for w := 0; w < 1<<16; w += 911 {
		l = append(l, impl.Table{Bits: 4, Word: w})
	}
	return l
}

func forcedLeft(f impl.Table, c cube) int {
	return impl.ForcedLeft(f, c.term().Mask, c.term().Value)
}

func askedOf(f impl.Table, c cube) int {
	return impl.AskedOf(f, c.term().Mask, c.term().Value)
}

func adversaryAnswer(f impl.Table, c cube, i int) int {
	return impl.AdversaryAnswer(f, c.term().Mask, c.term().Value, i)
}

func TestForcedLeftIsOfTheWorseAnswers(t *testing.T) {
	for _, f := range playedTables() {
		l := forcedOf(f)
		for _, c := range cubesOf(f.Bits) {
			if got := forcedLeft(f, c); got != l[c.term()] || (got == 0) != c.settles(f) {
				t.Fatalf("ForcedLeft(%v, %v) = %d, want %d", f, c.term(), got, l[c.term()])
			}
		}
		if got := impl.ForcedLeft(f, 0, 0); got != impl.LeastDepth(f) {
			t.Fatalf("ForcedLeft(%v, 0, 0) = %d, LeastDepth is %d", f, got, impl.LeastDepth(f))
		}
	}
}

// TestForcedLeftOfItself has the results of ForcedLeft for a cube and those for one answer more.
func TestForcedLeftOfItself(t *testing.T) {
	for _, f := range playedTables() {
		for _, c := range cubesOf(f.Bits) {
			want := math.MaxInt
			for i, v := range c {
				if v == 2 {
					want = min(want, 1+max(forcedLeft(f, c.answered(i, 0)), forcedLeft(f, c.answered(i, 1))))
				}
			}
			if c.settles(f) {
				want = 0
			}
			if got := forcedLeft(f, c); got != want {
				t.Fatalf("ForcedLeft(%v, %v) = %d, want %d", f, c.term(), got, want)
			}
		}
	}
}

// TestForcedLeftIsOfRestrictions fixes the known variables one after the other.
func TestForcedLeftIsOfRestrictions(t *testing.T) {
	s := tables{t}
	for _, f := range playedTables() {
		for _, c := range cubesOf(f.Bits) {
			g := f
			for i := f.Bits - 1; i >= 0; i-- {
				if c[i] < 2 {
					g = s.restrict(g, i, c[i])
				}
			}
			if got := forcedLeft(f, c); got != impl.LeastDepth(g) {
				t.Fatalf("ForcedLeft(%v, %v) = %d, LeastDepth(%v) = %d", f, c.term(), got, g, impl.LeastDepth(g))
			}
		}
	}
}

func TestAdversaryAnswersLeaveMore(t *testing.T) {
	for _, f := range playedTables() {
		l := forcedOf(f)
		for _, c := range cubesOf(f.Bits) {
			for i, v := range c {
				want := -1
				if v == 2 {
					want = l.answer(c, i)
				}
				got := adversaryAnswer(f, c, i)
				if got != want {
					t.Fatalf("AdversaryAnswer(%v, %v, %d) = %d, want %d", f, c.term(), i, got, want)
				}
				if v == 2 && (got == 1) != (forcedLeft(f, c.answered(i, 1)) > forcedLeft(f, c.answered(i, 0))) {
					t.Fatalf("AdversaryAnswer(%v, %v, %d) = %d, though it leaves %d and %d", f, c.term(), i, got, forcedLeft(f, c.answered(i, 0)), forcedLeft(f, c.answered(i, 1)))
				}
			}
		}
	}
}

func TestAskedOfIsOfTheBestTree(t *testing.T) {
	s := tables{t}
	for _, f := range playedTables() {
		l := forcedOf(f)
		for _, c := range cubesOf(f.Bits) {
			got := askedOf(f, c)
			if want := l.question(c); got != want {
				t.Fatalf("AskedOf(%v, %v) = %d, want %d", f, c.term(), got, want)
			}
			// The letters of what is left are those of the variables that are not known.
			g, letters := f, ""
			for i := f.Bits - 1; i >= 0; i-- {
				if c[i] < 2 {
					g = s.restrict(g, i, c[i])
				} else {
					letters = "abcd"[i:i+1] + letters
				}
			}
			want := -1
			if first := bestTree(t, g)[0]; first >= 'a' {
				want = int(letters[first-'a'] - 'a')
			}
			if got != want {
				t.Fatalf("AskedOf(%v, %v) = %d, BestTree(%v) = %q", f, c.term(), got, g, bestTree(t, g))
			}
		}
		first := bestTree(t, f)[:1]
		if got := impl.AskedOf(f, 0, 0); got != strings.Index("abcd", first) {
			t.Fatalf("AskedOf(%v, 0, 0) = %d, BestTree starts with %q", f, got, first)
		}
	}
}

// TestAskedOfFollowsTheBestTree asks for the variables of each input, in the order of AskedOf.
func TestAskedOfFollowsTheBestTree(t *testing.T) {
	for _, f := range playedTables() {
		s := bestTree(t, f)
		for x, v := range values(f) {
			bits, c, letters := bitsOf(f.Bits, x), nothing(f.Bits), ""
			for {
				i := askedOf(f, c)
				if i < 0 {
					break
				}
				if i >= f.Bits || c[i] < 2 {
					t.Fatalf("AskedOf(%v, %v) = %d", f, c.term(), i)
				}
				letters += "abcd"[i : i+1]
				c = c.answered(i, bits[i])
			}
			if want, value := asked(s, bits); letters != want || value != v {
				t.Fatalf("AskedOf(%v) asks for %q at %d, BestTree %q for %q", f, letters, x, s, want)
			}
			if len(letters) != impl.QueriesOf(s, x) || impl.CubeValue(f, c.term().Mask, c.term().Value) != v {
				t.Fatalf("AskedOf(%v) asks for %q at %d, which knows %v", f, letters, x, c.term())
			}
		}
	}
}

// leastAsked returns how many variables are asked in the best adaptive order against AdversaryAnswer.
func leastAsked(f impl.Table, c cube) int {
	if c.settles(f) {
		return 0
	}
	least := math.MaxInt
	for i, v := range c {
		if v == 2 {
			least = min(least, 1+leastAsked(f, c.answered(i, adversaryAnswer(f, c, i))))
		}
	}
	return least
}

func TestNoOrderBeatsTheAdversary(t *testing.T) {
	for _, f := range playedTables() {
		depth := impl.LeastDepth(f)
		if n := leastAsked(f, nothing(f.Bits)); n != depth {
			t.Fatalf("%d questions are enough against AdversaryAnswer for %v, LeastDepth is %d", n, f, depth)
		}
		// AskedOf is such an order.
		c, n := nothing(f.Bits), 0
		for i := askedOf(f, c); i >= 0; i = askedOf(f, c) {
			c = c.answered(i, adversaryAnswer(f, c, i))
			n++
		}
		if n != depth || !c.settles(f) {
			t.Fatalf("AskedOf asks %d questions against AdversaryAnswer for %v, LeastDepth is %d", n, f, depth)
		}
	}
}

func TestPlayAgainstTakesEachAnswer(t *testing.T) {
	for _, f := range playedTables() {
		l, least := forcedOf(f), math.MaxInt
		for _, order := range orders(f.Bits) {
			c, want := nothing(f.Bits), 0
			for !c.settles(f) {
				i := order[want]
				c = c.answered(i, l.answer(c, i))
				want++
			}
			got := impl.PlayAgainst(f, order)
			if got != want || got < impl.LeastDepth(f) || got > f.Bits {
				t.Fatalf("PlayAgainst(%v, %v) = %d, want %d, LeastDepth is %d", f, order, got, want, impl.LeastDepth(f))
			}
			least = min(least, got)
		}
		// The answers are always the same, so one of the orders is that of the best questions.
		if least != impl.LeastDepth(f) {
			t.Fatalf("PlayAgainst(%v) is at least %d, LeastDepth is %d", f, least, impl.LeastDepth(f))
		}
	}
}

// TestPlayAgainstByCalls plays with the results of AdversaryAnswer and CubeValue.
func TestPlayAgainstByCalls(t *testing.T) {
	for _, f := range playedTables() {
		for _, order := range orders(f.Bits) {
			mask, value, want := 0, 0, 0
			for impl.CubeValue(f, mask, value) == 2 {
				i := order[want]
				value |= impl.AdversaryAnswer(f, mask, value, i) << i
				mask |= 1 << i
				want++
			}
			if got := impl.PlayAgainst(f, order); got != want {
				t.Fatalf("PlayAgainst(%v, %v) = %d, want %d", f, order, got, want)
			}
		}
	}
}

func TestIsEvasiveIfLeastDepthIsBits(t *testing.T) {
	count := map[int]int{}
	for n := range 5 {
		for _, f := range allTables(n) {
			want := impl.LeastDepth(f) == n
			if got := impl.IsEvasive(f); got != want {
				t.Fatalf("IsEvasive(%v) = %v, LeastDepth is %d", f, got, impl.LeastDepth(f))
			}
			if want {
				count[n]++
			}
		}
	}
	// All tables with an odd number of ones are among them.
	for n := range 5 {
		if count[n] < 1<<(1<<n)/2 {
			t.Errorf("%d tables of %d variables are evasive", count[n], n)
		}
	}
	if count[0] != 2 || count[1] != 2 || count[2] != 10 {
		t.Errorf("%v tables are evasive", count)
	}
	l := append(someTables(5), impl.Table{Bits: 5, Word: 1 << 31}, impl.Table{Bits: 5, Word: 0x69969669})
	for _, f := range append(l, notTables()...) {
		if impl.IsEvasive(f) {
			t.Errorf("IsEvasive(%v), though LeastDepth is %d", f, impl.LeastDepth(f))
		}
	}
}

// TestEvasiveTablesAskForAll has that a table is evasive exactly if each order asks for all variables.
func TestEvasiveTablesAskForAll(t *testing.T) {
	for _, f := range playedTables() {
		all := true
		for _, order := range orders(f.Bits) {
			all = all && impl.PlayAgainst(f, order) == f.Bits
		}
		if impl.IsEvasive(f) != all {
			t.Fatalf("IsEvasive(%v) = %v, though all orders ask for all variables: %v", f, impl.IsEvasive(f), all)
		}
	}
}

func TestAdversariesOfTables(t *testing.T) {
	for _, c := range []struct {
		f           string
		mask, value int
		forced      int
		asked       int
		answers     []int
	}{
		{"01", 0, 0, 1, 0, []int{0}},
		{"0001", 0, 0, 2, 0, []int{1, 1}},
		{"0001", 1, 1, 1, 1, []int{-1, 0}},
		{"0001", 1, 0, 0, -1, []int{-1, 0}},
		{"0111", 0, 0, 2, 0, []int{0, 0}},
		{"0110", 0, 0, 2, 0, []int{0, 0}},
		{"0110", 2, 2, 1, 0, []int{0, -1}},
		{"0011", 0, 0, 1, 1, []int{0, 0}},
		{"0011", 1, 1, 1, 1, []int{-1, 0}},
		{"0011", 2, 2, 0, -1, []int{0, -1}},
		{"00010111", 0, 0, 3, 0, []int{0, 0, 0}},
		{"00010111", 1, 0, 2, 1, []int{-1, 1, 1}},
		{"00010111", 2, 2, 2, 0, []int{0, -1, 0}},
		{"00010111", 5, 4, 1, 1, []int{-1, 0, -1}},
		{"01010011", 0, 0, 2, 2, []int{0, 0, 0}},
		{"01010011", 4, 4, 1, 1, []int{0, 0, -1}},
		{"01010011", 4, 0, 1, 0, []int{0, 0, -1}},
		{"01010011", 3, 3, 0, -1, []int{-1, -1, 0}},
		{"0000000000000001", 0, 0, 4, 0, []int{1, 1, 1, 1}},
		{"0000000000000001", 9, 9, 2, 1, []int{-1, 1, 1, -1}},
		{"0111111111111111", 10, 0, 2, 0, []int{0, -1, 0, -1}},
	} {
		f, _ := impl.ParseTable(c.f)
		if got := impl.ForcedLeft(f, c.mask, c.value); got != c.forced {
			t.Errorf("ForcedLeft(%s, %d, %d) = %d, want %d", c.f, c.mask, c.value, got, c.forced)
		}
		if got := impl.AskedOf(f, c.mask, c.value); got != c.asked {
			t.Errorf("AskedOf(%s, %d, %d) = %d, want %d", c.f, c.mask, c.value, got, c.asked)
		}
		for i, want := range c.answers {
			if got := impl.AdversaryAnswer(f, c.mask, c.value, i); got != want {
				t.Errorf("AdversaryAnswer(%s, %d, %d, %d) = %d, want %d", c.f, c.mask, c.value, i, got, want)
			}
		}
	}
}

func TestPlaysOfTables(t *testing.T) {
	for _, c := range []struct {
		f     string
		order []int
		asked int
	}{
		{"01", []int{0}, 1},
		{"10", []int{0}, 1},
		{"0011", []int{0, 1}, 2},
		{"0011", []int{1, 0}, 1},
		{"0001", []int{0, 1}, 2},
		{"0001", []int{1, 0}, 2},
		{"00010111", []int{2, 0, 1}, 3},
		{"01010011", []int{2, 0, 1}, 2},
		{"01010011", []int{2, 1, 0}, 3},
		{"01010011", []int{0, 1, 2}, 3},
		{"01010011", []int{1, 0, 2}, 3},
		{"01010011", []int{0, 2, 1}, 3},
		{"01010011", []int{1, 2, 0}, 3},
		{"0000000000000001", []int{3, 1, 0, 2}, 4},
		{"0000000011111111", []int{3, 1, 0, 2}, 1},
		{"0000000011111111", []int{1, 0, 2, 3}, 4},
	} {
		f, _ := impl.ParseTable(c.f)
		if got := impl.PlayAgainst(f, c.order); got != c.asked {
			t.Errorf("PlayAgainst(%s, %v) = %d, want %d", c.f, c.order, got, c.asked)
		}
	}
}

// TestKnownValue has sets of variables that settle the value: there is nothing to ask, but the adversary still answers.
func TestKnownValue(t *testing.T) {
	for _, f := range playedTables() {
		for _, c := range cubesOf(f.Bits) {
			if !c.settles(f) {
				if askedOf(f, c) < 0 || forcedLeft(f, c) <= 0 {
					t.Fatalf("AskedOf(%v, %v) = %d, ForcedLeft = %d", f, c.term(), askedOf(f, c), forcedLeft(f, c))
				}
				continue
			}
			if askedOf(f, c) != -1 || forcedLeft(f, c) != 0 {
				t.Fatalf("AskedOf(%v, %v) = %d, ForcedLeft = %d", f, c.term(), askedOf(f, c), forcedLeft(f, c))
			}
			for i, v := range c {
				// Both answers leave nothing; a variable that is known has none.
				want := 0
				if v < 2 {
					want = -1
				}
				if got := adversaryAnswer(f, c, i); got != want {
					t.Fatalf("AdversaryAnswer(%v, %v, %d) = %d, want %d", f, c.term(), i, got, want)
				}
			}
		}
	}
}

func TestConstantsAreKnown(t *testing.T) {
	for n := range 5 {
		for _, f := range []impl.Table{{Bits: n}, {Bits: n, Word: 1<<(1<<n) - 1}} {
			for _, order := range orders(n) {
				if got := impl.PlayAgainst(f, order); got != 0 {
					t.Errorf("PlayAgainst(%v, %v) = %d", f, order, got)
				}
			}
			if impl.ForcedLeft(f, 0, 0) != 0 || impl.AskedOf(f, 0, 0) != -1 || impl.IsEvasive(f) != (n == 0) {
				t.Errorf("ForcedLeft(%v, 0, 0) = %d, AskedOf = %d, IsEvasive = %v", f, impl.ForcedLeft(f, 0, 0), impl.AskedOf(f, 0, 0), impl.IsEvasive(f))
			}
			for i := range n {
				if got := impl.AdversaryAnswer(f, 0, 0, i); got != 0 {
					t.Errorf("AdversaryAnswer(%v, 0, 0, %d) = %d", f, i, got)
				}
			}
			if got := impl.AdversaryAnswer(f, 0, 0, n); got != -1 {
				t.Errorf("AdversaryAnswer(%v, 0, 0, %d) = %d", f, n, got)
			}
		}
	}
	for v := range 2 {
		f := impl.Table{Word: v}
		if impl.PlayAgainst(f, nil) != 0 || impl.PlayAgainst(f, []int{}) != 0 {
			t.Errorf("PlayAgainst(%v, nil) = %d, PlayAgainst(%v, []int{}) = %d", f, impl.PlayAgainst(f, nil), f, impl.PlayAgainst(f, []int{}))
		}
	}
}

// TestAdversariesOfUselessVariables adds a variable that does not matter at each place.
func TestAdversariesOfUselessVariables(t *testing.T) {
	for n := range 4 {
		for _, f := range tablesOf(n) {
			for i := range n + 1 {
				checkUseless(t, f, i)
			}
		}
	}
}

func checkUseless(t *testing.T, f impl.Table, i int) {
	t.Helper()
	g := tables{t}.join(f, f, i)
	if impl.IsEvasive(g) {
		t.Fatalf("IsEvasive(%v), though variable %d does not matter", g, i)
	}
	moved := func(j int) int {
		if j >= i {
			j++
		}
		return j
	}
	for _, c := range cubesOf(f.Bits) {
		for v := range 3 {
			d := slices.Insert(slices.Clone(c), i, v)
			if forcedLeft(g, d) != forcedLeft(f, c) || askedOf(g, d) != moved(askedOf(f, c)) && askedOf(f, c) >= 0 || askedOf(f, c) < 0 && askedOf(g, d) != -1 {
				t.Fatalf("ForcedLeft(%v, %v) = %d, AskedOf = %d, of %v, %v %d and %d", g, d.term(), forcedLeft(g, d), askedOf(g, d), f, c.term(), forcedLeft(f, c), askedOf(f, c))
			}
			for j := range c {
				if adversaryAnswer(g, d, moved(j)) != adversaryAnswer(f, c, j) {
					t.Fatalf("AdversaryAnswer(%v, %v, %d) = %d, of %v, %v it is %d", g, d.term(), moved(j), adversaryAnswer(g, d, moved(j)), f, c.term(), adversaryAnswer(f, c, j))
				}
			}
			if got := adversaryAnswer(g, d, i); got != v/2-1 {
				t.Fatalf("AdversaryAnswer(%v, %v, %d) = %d", g, d.term(), i, got)
			}
		}
	}
	for _, order := range orders(f.Bits) {
		asked := impl.PlayAgainst(f, order)
		for place := range len(order) + 1 {
			longer := slices.Clone(order)
			for k, j := range longer {
				longer[k] = moved(j)
			}
			longer = slices.Insert(longer, place, i)
			want := asked
			if place < asked {
				want++
			}
			if got := impl.PlayAgainst(g, longer); got != want {
				t.Fatalf("PlayAgainst(%v, %v) = %d, want %d", g, longer, got, want)
			}
		}
	}
}

// TestAdversariesOfNegations exchanges the values of all inputs: what is asked stays the same.
func TestAdversariesOfNegations(t *testing.T) {
	for _, f := range playedTables() {
		g, _ := impl.NotTable(f)
		for _, c := range cubesOf(f.Bits) {
			if forcedLeft(g, c) != forcedLeft(f, c) || askedOf(g, c) != askedOf(f, c) {
				t.Fatalf("ForcedLeft(%v, %v) = %d, AskedOf = %d, of %v %d and %d", g, c.term(), forcedLeft(g, c), askedOf(g, c), f, forcedLeft(f, c), askedOf(f, c))
			}
			for i := range c {
				if adversaryAnswer(g, c, i) != adversaryAnswer(f, c, i) {
					t.Fatalf("AdversaryAnswer(%v, %v, %d) = %d, of %v %d", g, c.term(), i, adversaryAnswer(g, c, i), f, adversaryAnswer(f, c, i))
				}
			}
		}
		for _, order := range orders(f.Bits) {
			if impl.PlayAgainst(g, order) != impl.PlayAgainst(f, order) {
				t.Fatalf("PlayAgainst(%v, %v) = %d, of %v %d", g, order, impl.PlayAgainst(g, order), f, impl.PlayAgainst(f, order))
			}
		}
	}
}

// checkNothingKnown has the functions fail for what is known, whichever variable is asked.
func checkNothingKnown(t *testing.T, f impl.Table, mask, value int) {
	t.Helper()
	if impl.AskedOf(f, mask, value) != -1 || impl.ForcedLeft(f, mask, value) != -1 {
		t.Errorf("AskedOf(%v, %d, %d) = %d, ForcedLeft = %d", f, mask, value, impl.AskedOf(f, mask, value), impl.ForcedLeft(f, mask, value))
	}
	for _, i := range []int{math.MinInt, -1, 0, 1, 2, 3, 4, 5, 63, 64, math.MaxInt} {
		if got := impl.AdversaryAnswer(f, mask, value, i); got != -1 {
			t.Errorf("AdversaryAnswer(%v, %d, %d, %d) = %d", f, mask, value, i, got)
		}
	}
}

func TestAdversariesRejectWhatIsKnown(t *testing.T) {
	for n := range 5 {
		for _, f := range someTables(n)[:8] {
			for _, mask := range append(outOfRange, 1<<n, 1<<n+1, 2<<n-1, 2<<n, 3<<n) {
				for _, value := range []int{0, 1, mask, -1} {
					checkNothingKnown(t, f, mask, value)
				}
			}
			for mask := range 1 << n {
				for _, value := range append(outOfRange, mask+1<<n, math.MinInt|mask, -1<<n|mask) {
					checkNothingKnown(t, f, mask, value)
				}
				for value := range 1 << n {
					if value|mask != mask {
						checkNothingKnown(t, f, mask, value)
					}
				}
			}
		}
	}
}

func TestAdversariesRejectTables(t *testing.T) {
	five := append(someTables(5), impl.Table{Bits: 5, Word: 1<<32 - 1})
	for _, f := range append(five, notTables()...) {
		for _, mask := range []int{-1, 0, 1, 2, 15, 16, 31, 32, 64} {
			checkNothingKnown(t, f, mask, 0)
			checkNothingKnown(t, f, mask, mask)
		}
		for m := range 7 {
			if got := impl.PlayAgainst(f, orders(m)[0]); got != -1 {
				t.Errorf("PlayAgainst(%v, %v) = %d", f, orders(m)[0], got)
			}
		}
		if got := impl.PlayAgainst(f, []int{0, 0}); got != -1 {
			t.Errorf("PlayAgainst(%v, [0 0]) = %d", f, got)
		}
	}
}

func TestAdversaryAnswerRejectsVariables(t *testing.T) {
	for n := range 5 {
		for _, f := range someTables(n) {
			for _, c := range cubesOf(n) {
				for _, i := range append(outOfRange, n, n+1, n+2, 5, 6, 31) {
					if got := adversaryAnswer(f, c, i); got != -1 {
						t.Fatalf("AdversaryAnswer(%v, %v, %d) = %d", f, c.term(), i, got)
					}
				}
			}
		}
	}
}

func TestPlayAgainstRejectsOrders(t *testing.T) {
	for n := range 5 {
		for _, f := range someTables(n)[:8] {
			for _, order := range wrongOrders(n) {
				if got := impl.PlayAgainst(f, order); got != -1 {
					t.Errorf("PlayAgainst(%v, %v) = %d", f, order, got)
				}
			}
			for m := range 7 {
				if m == n {
					continue
				}
				if got := impl.PlayAgainst(f, orders(m)[0]); got != -1 {
					t.Errorf("PlayAgainst(%v, %v) = %d", f, orders(m)[0], got)
				}
			}
			if n > 0 && (impl.PlayAgainst(f, nil) != -1 || impl.PlayAgainst(f, []int{}) != -1) {
				t.Errorf("PlayAgainst(%v, nil) = %d", f, impl.PlayAgainst(f, nil))
			}
		}
	}
}

// TestOrdersAreNotModified looks at an order and its unused capacity, of which nothing is read.
func TestOrdersAreNotModified(t *testing.T) {
	for _, f := range playedTables() {
		for _, order := range orders(f.Bits) {
			want := append(slices.Clone(order), 7, -7, 0)
			all := slices.Clone(want)
			if got := impl.PlayAgainst(f, all[:f.Bits]); got != impl.PlayAgainst(f, order) {
				t.Fatalf("PlayAgainst(%v, %v) = %d", f, order, got)
			}
			if !slices.Equal(all, want) {
				t.Fatalf("PlayAgainst(%v, %v) has left %v", f, order, all)
			}
		}
	}
}
