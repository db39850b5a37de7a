package tests

import (
	"math"
	"slices"
	"strings"
	"testing"

	"loop.example/parametric/impl"
)

// Elements of interfaces by hand: a toggle has what is hidden at first, a function that goes on, and what is told of it.
const (
	face        = "(* a (> a o))"
	toggle      = "(* a (* (> a a) (> a o)))"
	toggleTwo   = 0*16 + 1*4 + 2   // from 0 to 1 and back; 1 tells true
	toggleOther = 1*16 + 1*4 + 1   // the same with both numbers exchanged
	toggleStill = 0*16 + 2*4 + 2   // it does not go on
	toggleThree = 0*216 + 16*8 + 2 // from 0 to 1, to 2 and back to 1; 1 tells true
	toggleApart = 0*216 + 19*8 + 2 // from 0 to 1 and back; 2 stays by itself
	toggleLater = 0*216 + 10*8 + 2 // from 0 to 1 and back; 2 goes to 1
)

// A relation of two sizes is written with its pairs behind it; without any text there is none.
func TestModulesByHand(t *testing.T) {
	for _, c := range []struct {
		kind        string
		m, n, x, y  int
		least, best string
	}{
		// What is hidden must be related: by one pair at least, and all relations that have it do.
		{"a", 1, 1, 0, 0, "1 1 | 0", "1 1 | 0"}, {"a", 2, 2, 0, 1, "2 2 | 1", "2 2 | 0 1 2 3"}, {"a", 2, 3, 1, 2, "2 3 | 5", "2 3 | 0 1 2 3 4 5"}, {"a", 3, 2, 2, 1, "3 2 | 5", "3 2 | 0 1 2 3 4 5"}, {"a", 3, 3, 1, 0, "3 3 | 3", "3 3 | 0 1 2 3 4 5 6 7 8"}, {"(* a a)", 2, 2, 1, 2, "2 2 | 1 2", "2 2 | 0 1 2 3"}, {"(* a a)", 2, 2, 0, 3, "2 2 | 1", "2 2 | 0 1 2 3"}, {"(* a a)", 1, 3, 0, 5, "1 3 | 1 2", "1 3 | 0 1 2"}, {"(* a a)", 3, 1, 5, 0, "3 1 | 1 2", "3 1 | 0 1 2"},
		{"(* a o)", 2, 2, 1, 3, "2 2 | 1", "2 2 | 0 1 2 3"}, {"(* a o)", 2, 2, 0, 3, "", ""}, {"(* a o)", 2, 3, 3, 5, "2 3 | 5", "2 3 | 0 1 2 3 4 5"}, {"(* a o)", 3, 2, 4, 3, "", ""}, {"(> o a)", 2, 2, 2, 1, "2 2 | 1 2", "2 2 | 0 1 2 3"},
		// Without the variable, all relations make the same modules alike, that without pairs among them, and none makes others.
		{"o", 2, 3, 1, 1, "2 3 |", "2 3 | 0 1 2 3 4 5"}, {"o", 2, 3, 0, 0, "2 3 |", "2 3 | 0 1 2 3 4 5"}, {"o", 2, 3, 0, 1, "", ""}, {"o", 3, 3, 1, 0, "", ""}, {"o", 1, 1, 1, 1, "1 1 |", "1 1 | 0"}, {"(> o o)", 3, 2, 2, 2, "3 2 |", "3 2 | 0 1 2 3 4 5"}, {"(> o o)", 3, 3, 2, 1, "", ""}, {"(* o (> o o))", 3, 3, 7, 7, "3 3 |", "3 3 | 0 1 2 3 4 5 6 7 8"},
		// Functions of what is hidden: the relation without pairs makes all of them alike. With a result of a, so does that with all pairs.
		{"(> a a)", 2, 2, 1, 2, "2 2 |", "2 2 | 0 1 2 3"}, {"(> a a)", 1, 3, 0, 5, "1 3 |", "1 3 | 0 1 2"}, {"(> a a)", 3, 2, 19, 0, "3 2 |", "3 2 | 0 1 2 3 4 5"}, {"(> a (> a a))", 2, 2, 3, 12, "2 2 |", "2 2 | 0 1 2 3"},
		// With a result of o, numbers that differ in it are not related.
		{"(> a o)", 2, 2, 1, 2, "2 2 |", "2 2 | 1 2"}, {"(> a o)", 2, 2, 1, 1, "2 2 |", "2 2 | 0 3"}, {"(> a o)", 2, 2, 3, 3, "2 2 |", "2 2 | 0 1 2 3"}, {"(> a o)", 2, 3, 3, 0, "2 3 |", "2 3 |"}, {"(> a o)", 2, 3, 1, 5, "2 3 |", "2 3 | 0 2 4"}, {"(> a o)", 3, 2, 5, 1, "3 2 |", "3 2 | 0 3 4"}, {"(> a o)", 1, 3, 1, 6, "1 3 |", "1 3 | 1 2"}, {"(> a o)", 3, 1, 6, 1, "3 1 |", "3 1 | 1 2"},
		// Tests for equality: each relation of one to one, and so all numbers are related by some; but not by all pairs at once.
		{"(> a (> a o))", 2, 2, 9, 9, "2 2 |", "2 2 | 0 1 2 3"}, {"(> a (> a o))", 2, 3, 9, 273, "2 3 |", "2 3 | 0 1 2 3 4 5"}, {"(> a (> a o))", 3, 2, 273, 9, "3 2 |", "3 2 | 0 1 2 3 4 5"}, {"(> a (> a o))", 2, 2, 9, 6, "2 2 |", "2 2 |"}, {"(> a (> a o))", 1, 2, 1, 6, "1 2 |", "1 2 |"},
		{"(> (* a a) o)", 2, 2, 9, 9, "2 2 |", "2 2 | 0 1 2 3"}, {"(> (* a a) o)", 1, 2, 1, 9, "1 2 |", "1 2 | 0 1"},
		{face, 1, 2, 1, 1, "1 2 | 0", "1 2 | 0"}, {face, 1, 2, 0, 1, "", ""}, {face, 1, 2, 1, 3, "1 2 | 0", "1 2 | 0 1"}, {face, 1, 2, 1, 7, "1 2 | 1", "1 2 | 0 1"}, {face, 1, 2, 0, 0, "1 2 | 0", "1 2 | 0 1"}, {face, 2, 1, 1, 1, "2 1 | 0", "2 1 | 0"}, {face, 2, 1, 7, 1, "2 1 | 1", "2 1 | 0 1"}, {face, 2, 1, 1, 0, "", ""}, {face, 2, 2, 1, 6, "2 2 | 1", "2 2 | 1 2"}, {face, 1, 3, 1, 22, "1 3 | 2", "1 3 | 1 2"},
		{toggle, 2, 2, toggleTwo, toggleOther, "2 2 | 1 2", "2 2 | 1 2"}, {toggle, 2, 2, toggleOther, toggleTwo, "2 2 | 1 2", "2 2 | 1 2"}, {toggle, 2, 2, toggleTwo, toggleTwo, "2 2 | 0 3", "2 2 | 0 3"}, {toggle, 2, 2, toggleTwo, toggleStill, "", ""}, {toggle, 2, 2, toggleStill, toggleTwo, "", ""}, {toggle, 2, 2, toggleStill, toggleStill, "2 2 | 0", "2 2 | 0 3"},
		{toggle, 2, 3, toggleTwo, toggleThree, "2 3 | 0 2 4", "2 3 | 0 2 4"}, {toggle, 3, 2, toggleThree, toggleTwo, "3 2 | 0 3 4", "3 2 | 0 3 4"}, {toggle, 3, 2, toggleApart, toggleTwo, "3 2 | 0 3", "3 2 | 0 3"}, {toggle, 3, 2, toggleLater, toggleTwo, "3 2 | 0 3", "3 2 | 0 3 4"}, {toggle, 2, 3, toggleOther, toggleLater, "2 3 | 1 3", "2 3 | 1 3 5"}, {toggle, 3, 2, toggleThree, toggleStill, "", ""}, {toggle, 3, 3, toggleThree, toggleLater, "3 3 | 0 4 6", "3 3 | 0 2 4 6 8"}, {toggle, 3, 1, toggleThree, 0, "", ""}, {toggle, 1, 2, 0, toggleStill, "1 2 | 0", "1 2 | 0"}, {toggle, 1, 2, 1, toggleStill, "", ""},
	} {
		rels := paramBetween(readType(c.kind), c.m, c.n).alike(c.x, c.y)
		least, best := relOf(c.least), relOf(c.best)
		if !sameRel(leastOf(rels), least) || !sameRel(bestOf(rels), best) {
			t.Fatalf("the test finds %s and %s for %v", relText(leastOf(rels)), relText(bestOf(rels)), c)
		}
		checkRelations(t, c.kind, c.m, c.n, c.x, c.y, least, best)
	}
}

// The least number counts, and not the fewest pairs.
func TestLeastNumbersOfModules(t *testing.T) {
	d := dice(93)
	fewer, held := 0, 0
	for _, s := range interfaces() {
		for _, sizes := range [][2]int{{2, 2}, {2, 3}, {3, 2}} {
			p := paramBetween(readType(s), sizes[0], sizes[1])
			for range 120 {
				if !p.known() {
					break
				}
				x, y := d.below(min(p.left, 32)), d.below(min(p.right, 32))
				rels := p.alike(x, y)
				checkRelations(t, s, sizes[0], sizes[1], x, y, leastOf(rels), bestOf(rels))
				if len(rels) == 0 {
					continue
				}
				held++
				best := slices.MinFunc(rels, func(a impl.Rel, b impl.Rel) int { return len(a.Pairs) - len(b.Pairs) })
				if len(best.Pairs) < len(rels[0].Pairs) {
					fewer++
				}
			}
		}
	}
	checkCount(t, "modules are alike", held, 1000)
	checkCount(t, "a relation with a greater number has fewer pairs", fewer, 20)
}

// checkModules compares all that is told of modules of an interface with what the tests find on their own. It adds to a count of how they are alike.
func checkModules(t *testing.T, d *dice, c paramCase, counts map[string]int) {
	t.Helper()
	s, p := c.kind.String(), paramBetween(c.kind, c.m, c.n)
	if !p.known() {
		counts["not known"]++
		checkNoModules(t, s, c.m, c.n)
		return
	}
	for _, x := range d.some(p.left)[:min(8, 4+p.left)] {
		for _, y := range []int{min(x, p.right-1), d.below(p.right), p.right, -1} {
			rels := p.alike(x, y)
			least, best := leastOf(rels), bestOf(rels)
			checkRelations(t, s, c.m, c.n, x, y, least, best)
			switch {
			case len(rels) == 0:
				counts["not alike"]++
			case len(least.Pairs) == 0:
				counts["alike without pairs"]++
			case len(rels) > 1:
				counts["alike by several relations with pairs"]++
			}
			if len(rels) > 0 && c.m != c.n && slices.Contains(c.kind.names(), "a") {
				counts["alike with different sizes"]++
			}
			if len(rels) > 0 && len(best.Pairs) < c.m*c.n {
				counts["alike, but not all numbers"]++
			}
		}
	}
}

func TestModules(t *testing.T) {
	d := dice(91)
	counts := map[string]int{}
	for _, c := range moduleCases(91) {
		checkModules(t, &d, c, counts)
	}
	for _, what := range []string{"not known", "not alike", "alike without pairs", "alike by several relations with pairs", "alike with different sizes", "alike, but not all numbers"} {
		checkCount(t, what, counts[what], 100)
	}
}

func TestSizesOfModules(t *testing.T) {
	for _, s := range []string{"o", "a", "(> a a)", "(* o o)", face} {
		for _, n := range badSizes() {
			for m := 1; m <= 3; m++ {
				checkNoModules(t, s, m, n)
				checkNoModules(t, s, n, m)
			}
			for _, m := range badSizes() {
				checkNoModules(t, s, m, n)
			}
			checkNoRun(t, s, "(lam m true)", n)
		}
		for m := 1; m <= 3; m++ {
			for n := 1; n <= 3; n++ {
				if !impl.ModuleAlike(s, m, n, 0, 0) {
					t.Errorf("modules of %q are not alike for the sizes %d and %d", s, m, n)
				}
			}
		}
	}
	for n := 1; n <= 3; n++ {
		checkRun(t, "(* a o)", "(lam p (snd p))", n, 2*n-1, 1)
	}
}

func TestNoInterfaces(t *testing.T) {
	for _, s := range append(badTypes(), otherTypes()...) {
		for n := -1; n <= 4; n++ {
			checkNoModules(t, s, n, n)
			checkNoModules(t, s, 1, n)
			checkNoModules(t, s, n, 2)
			checkNoRun(t, s, "(lam m true)", n)
		}
	}
	// Texts that are types of a client only as a whole.
	for _, c := range [][2]string{{"a a) (> o", "(lam f (lam x true))"}, {"o o", "(lam x true)"}, {"o (* o", "(lam x true)"}, {"(> a", "(lam x true)"}, {"a o) (> a", "(lam x true)"}, {"a (> a", "(lam x (lam y true))"}, {"a", "(lam x true))"}} {
		for n := 1; n <= 3; n++ {
			for x := range 3 {
				if c[0] != "a" {
					checkRun(t, c[0], c[1], n, x, -1)
				}
			}
			checkNoRun(t, c[0], c[1]+" ", n)
		}
	}
}

func TestElementsOfModules(t *testing.T) {
	for _, s := range []string{"o", "a", "(* a o)", "(> a a)", "(> a o)", face} {
		for m := 1; m <= 3; m++ {
			for n := 1; n <= 3; n++ {
				left, right := sizedModel(m).count(readType(s)), sizedModel(n).count(readType(s))
				for _, x := range []int{-1, -2, left, left + 1, left * 2, 1 << 32, 1<<32 + 1, math.MinInt, math.MaxInt} {
					checkNoRelations(t, s, m, n, x, 0)
					checkNoRelations(t, s, m, n, x, x)
					checkNoRelations(t, s, n, m, 0, x)
					checkRun(t, s, "(lam m true)", m, x, -1)
					checkTold(t, s, "(lam m true)", m, n, x, 0, false)
					checkTold(t, s, "(lam m true)", n, m, 0, x, false)
				}
				if left < right {
					// An element on the right side only.
					checkNoRelations(t, s, m, n, right-1, right-1)
					checkNoRelations(t, s, n, m, right-1, right-1)
				}
			}
		}
	}
}

func TestCountsOfModules(t *testing.T) {
	for _, c := range []struct {
		s    string
		m, n int
	}{
		{"(> a (> a a))", 2, 3}, {"(> a (> a a))", 1, 3}, {"(> (> a a) a)", 1, 3}, {"(> (> (> a a) a) a)", 1, 2}, {"(> (> (> a o) o) o)", 1, 2}, {"(> (> (> a o) o) o)", 1, 3}, {"(* (> (> a o) a) o)", 1, 3}, {"(> (* (> a o) (> o o)) o)", 1, 2}, {"(> a (> a (* a o)))", 2, 3}, {"(* o (> (> a a) (> a a)))", 2, 3}, {"(* a (* (> a a) (> (> a a) o)))", 1, 3},
	} {
		checkNoModules(t, c.s, c.m, c.n)
		checkNoModules(t, c.s, c.n, c.m)
		checkNoModules(t, c.s, c.n, c.n)
		if sizedModel(c.m).count(readType(c.s)) < 0 || sizedModel(c.n).count(readType(c.s)) >= 0 {
			t.Fatalf("the test has counts of %s", c.s)
		}
		if _, ok := impl.ModuleBest(c.s, c.m, c.m, 0, 0); !ok {
			t.Errorf("ModuleBest(%q, %d, %d, 0, 0) fails", c.s, c.m, c.m)
		}
	}
	// Not for any size.
	for _, s := range []string{"(> o (> o (> o (> o o))))", "(* a (> o (> o (> o (> o o)))))", "(> (> o (> o (> o (> o o)))) a)", "(> (> o (> o (> o (> o (> a o))))) o)"} {
		for m := 1; m <= 3; m++ {
			for n := 1; n <= 3; n++ {
				checkNoModules(t, s, m, n)
			}
			checkNoRun(t, s, "(lam m true)", m)
		}
	}
}

// Types on which it would take too long to try all elements.
func TestModulesOfLargeTypes(t *testing.T) {
	large := "(> (* o o) (* o (* o o)))"
	for _, c := range []struct {
		s          string
		m, n, x, y int
		best       impl.Rel
	}{
		{"(> (* a (* o o)) o)", 3, 3, 4095, 4095, allPairs(3, 3)}, {"(> (* a (* o o)) o)", 3, 3, 4095, 0, noPairs(3, 3)}, {"(> (* a (* o o)) o)", 3, 2, 4080, 240, relOf("3 2 | 0 3 5")}, {"(> o (> a (* o o)))", 3, 3, 0, 0, allPairs(3, 3)}, {"(* (* a a) (* (> a a) (> a a)))", 2, 2, 0, 63, allPairs(2, 2)}, {chain(3, large, "a"), 1, 1, 0, 0, relOf("1 1 | 0")}, {large, 3, 2, 4095, 4095, allPairs(3, 2)}, {"(* (* o a) (* (* (> a o) (> a a)) a))", 3, 3, 3887, 3887, allPairs(3, 3)},
	} {
		got, ok := impl.ModuleBest(c.s, c.m, c.n, c.x, c.y)
		checkRel(t, "ModuleBest of "+c.s, got, ok, c.best)
	}
}

func TestClientsByHand(t *testing.T) {
	for _, c := range []struct {
		kind, client string
		n            int
		want         string
	}{
		{face, "(lam p (app (snd p) (fst p)))", 1, "0 1"}, {face, "(lam p (app (snd p) (fst p)))", 2, "0 1 0 1 0 0 1 1"}, {face, "(lam p (if (app (snd p) (fst p)) false true))", 2, "1 0 1 0 1 1 0 0"}, {face, "(lam p true)", 2, "1 1 1 1 1 1 1 1"}, {face, "(lam p false)", 1, "0 0"}, {face, "(let f (lam p (snd p)) (lam p (app (app f p) (fst p))))", 1, "0 1"}, {face, "(app (lam x x) (lam p (app (snd p) (fst p))))", 1, "0 1"},
		{"(* a o)", "(let f (lam p (snd p)) (lam p (app f p)))", 2, "0 1 0 1"}, {"(* o a)", "(lam p (app (lam q (if (fst q) false true)) p))", 2, "1 1 0 0"}, {"(* a (> o a))", "(app (lam q (lam p q)) true)", 1, "1"},
		{"o", "(lam b b)", 1, "0 1"}, {"o", "(lam b b)", 3, "0 1"}, {"o", "(lam b (if b false true))", 2, "1 0"}, {"a", "(lam x true)", 1, "1"}, {"a", "(lam x true)", 3, "1 1 1"}, {"a", "(lam x false)", 2, "0 0"}, {"(> o o)", "(lam f (app f true))", 3, "0 0 1 1"}, {"(> o o)", "(lam f (app f (app f false)))", 1, "0 0 0 1"},
		{"(* a o)", "(lam p (snd p))", 3, "0 1 0 1 0 1"}, {"(* o a)", "(lam p (fst p))", 3, "0 0 0 1 1 1"}, {"(> a o)", "(lam f true)", 3, "1 1 1 1 1 1 1 1"}, {"(> a a)", "(lam f true)", 2, "1 1 1 1"}, {"(* a a)", "(lam p false)", 3, "0 0 0 0 0 0 0 0 0"}, {"(> (> a o) o)", "(lam f (app f (lam x true)))", 1, "0 0 1 1"}, {"(* a (> a a))", "(lam p true)", 2, "1 1 1 1 1 1 1 1"},
		// Just 12 elements, as 2 to the power of 12 is CountMax.
		{"(* a (* o o))", "(lam p (fst (snd p)))", 3, "0 0 1 1 0 0 1 1 0 0 1 1"}, {"(* (* o o) a)", "(lam p (snd (fst p)))", 3, "0 0 0 1 1 1 0 0 0 1 1 1"},
		{chain(18, "a", "a"), "(lam f true)", 1, "1"}, {chain(17, "a", "a"), "(lam f false)", 1, "0"},
	} {
		want := numbersOf(c.want)
		for x, truth := range want {
			checkRun(t, c.kind, c.client, c.n, x, truth)
			for y, other := range want {
				checkTold(t, c.kind, c.client, c.n, c.n, x, y, truth != other)
			}
		}
		for _, x := range []int{-1, len(want), len(want) + 1, -len(want)} {
			checkRun(t, c.kind, c.client, c.n, x, -1)
			checkTold(t, c.kind, c.client, c.n, c.n, x, 0, false)
			checkTold(t, c.kind, c.client, c.n, c.n, 0, x, false)
		}
	}
}

// twiceNamed is a term that becomes too large when it is unfolded.
func twiceNamed() string {
	return "(app (lam y (lam m true)) " + twiceRow(6) + ")"
}

func TestNoClients(t *testing.T) {
	big := "(lam f (lam y (lam z (app (app f y) (pair z true)))))"
	for _, c := range []struct {
		kind, client string
	}{
		// Not closed, no term, or without a type.
		{"a", "x"}, {"a", "(lam x y)"}, {"o", "(lam x (if x y true))"}, {"o", "(app f (lam x x))"}, {"o", "(app (lam y (lam x x)) z)"}, {"a", ""}, {"a", "(lam x)"}, {"a", "(lam x true) "}, {"a", " (lam x true)"}, {"a", "(lam x (app x x))"}, {"o", "(fst (pair (lam x x) (app true true)))"}, {"a", around(149, "(lam x ", "true", ")")}, {"a", around(150, "(lam x ", "true", ")")},
		// Not of the type.
		{"a", "true"}, {"a", "(lam x x)"}, {"o", "(pair true true)"}, {"o", "(lam x (pair x x))"}, {"o", "(lam x (lam y x))"}, {"a", "(lam x (if x true false))"}, {"a", "(lam x (app x true))"}, {"(* a o)", "(lam p (fst p))"}, {"(* o a)", "(lam p (snd p))"}, {"(> a o)", "(lam f (app f true))"}, {"(* a (> a o))", "(lam p (app (fst p) (snd p)))"}, {"(* o (> a o))", "(lam p (app (snd p) (fst p)))"}, {"(> a a)", "(lam f f)"}, {"(> o o)", "(lam f (app (app f true) true))"}, {"(* a a)", "(lam p (lam q true))"},
		// The meaning of a part is not known, or unfolding fails.
		{"a", "(lam x (fst (pair true " + big + ")))"}, {"o", "(lam x (fst (pair x " + big + ")))"}, {"o", "(app (lam f (lam x x)) " + big + ")"}, {"o", "(let f " + big + " (lam x x))"}, {"a", twiceNamed()},
		// With more than 12 elements, clients have too many: 13 do not exist, but 16.
		{"(* (* o o) (* o o))", "(lam p true)"}, {"(> (> o o) o)", "(lam p true)"}, {"(* o (> o (* o o)))", "(lam p (fst p))"},
		// The type of clients has too many atoms.
		{chain(19, "a", "a"), "(lam f true)"}, {chain(19, "a", "o"), "(lam f true)"},
	} {
		for n := 1; n <= 3; n++ {
			checkNoRun(t, c.kind, c.client, n)
		}
	}
	for _, s := range badTerms() {
		checkRun(t, "a", s, 1, 0, -1)
		checkTold(t, "o", s, 1, 2, 0, 1, false)
	}
}

// A client tells apart just modules for which it runs.
func TestClientsThatRunForOneModule(t *testing.T) {
	for _, c := range []struct {
		kind, client string
		n            int // the greatest size for which it runs
		x, y         int // of the sizes 1 and 2 or more: it has other truth values for them
	}{
		// The type of the client.
		{face, "(lam p (app (snd p) (fst p)))", 2, 0, 1}, {face, "(lam p (app (snd p) (fst p)))", 2, 1, 0}, {"(* a (* a o))", "(lam p (snd (snd p)))", 2, 0, 1}, {"(* (> a a) o)", "(lam p (snd p))", 2, 1, 0}, {"(* o (* a (* a a)))", "(lam p (fst p))", 1, 1, 0}, {"(* (> a (> a a)) o)", "(lam p (snd p))", 1, 0, 1}, {"(* (* o o) (* a a))", "(lam p (fst (fst p)))", 1, 0, 15},
		// The type of a part: functions of clients are too many for 2, and functions of numbers to functions of numbers for 3.
		{face, "(app (lam x x) (lam p (app (snd p) (fst p))))", 1, 1, 0}, {face, "(let f (lam p (snd p)) (lam p (app (app f p) (fst p))))", 1, 0, 1},
		{"(* a o)", "(lam p (fst (pair (snd p) (lam y (lam z (if true (fst p) (if true y z)))))))", 2, 0, 1}, {"(* a o)", "(lam p (fst (pair (snd p) (lam y (lam z (if true (fst p) (if true y z)))))))", 2, 1, 0},
	} {
		for m := 1; m <= 3; m++ {
			runs := m <= c.n
			if _, ok := impl.ModuleRun(c.kind, c.client, m, 0); ok != runs {
				t.Errorf("ModuleRun(%q, %q, %d, 0) returns %v", c.kind, c.client, m, ok)
			}
			x, y := c.x, c.y
			checkTold(t, c.kind, c.client, 1, 1, x, y, y < sizedModel(1).count(readType(c.kind)))
			if m > 1 {
				checkTold(t, c.kind, c.client, 1, m, x, y, runs)
				checkTold(t, c.kind, c.client, m, 1, y, x, runs)
			}
		}
	}
	client := "(lam p (app (snd p) (fst p)))"
	checkTold(t, face, client, 1, 2, 0, 1, true)
	checkTold(t, face, client, 1, 2, 1, 5, true)
	checkTold(t, face, client, 2, 1, 5, 1, true)
	checkTold(t, face, client, 1, 2, 1, 1, false)
	checkTold(t, face, client, 1, 2, 0, 5, false)
	checkTold(t, face, client, 2, 2, 4, 7, true)
	checkTold(t, face, client, 1, 3, 0, 1, false)
}

func TestClients(t *testing.T) {
	d := dice(92)
	runs, told, between, not := 0, 0, 0, 0
	kinds := typesUpTo(7, "oa")
	for _, s := range interfaces() {
		kinds = append(kinds, slices.Repeat([]oneType{readType(s)}, 30)...)
	}
	for _, kind := range kinds {
		client := d.client(kind)
		if client == "" {
			continue
		}
		m, n := 1+d.below(3), 1+d.below(3)
		left, known := plainRuns(kind, client, m)
		right, both := plainRuns(kind, client, n)
		if !known {
			not++
			checkNoRun(t, kind.String(), client, m)
		}
		for x, truth := range left {
			runs++
			checkRun(t, kind.String(), client, m, x, truth)
			if both && len(right) == 0 {
				continue
			}
			for y := range max(len(right), 2) {
				want := both && y < len(right) && truth != right[y]
				checkTold(t, kind.String(), client, m, n, x, y, want)
				checkTold(t, kind.String(), client, n, m, y, x, want)
				if want {
					told++
				}
				if want && m != n && strings.Contains(kind.String(), "a") {
					between++
				}
			}
		}
	}
	checkCount(t, "clients run", runs, 500)
	checkCount(t, "clients tell modules apart", told, 500)
	checkCount(t, "with different sizes", between, 100)
	checkCount(t, "clients do not run", not, 100)
}

func TestModulesShareNoMemory(t *testing.T) {
	for _, call := range []func() (impl.Rel, bool){
		func() (impl.Rel, bool) { return impl.ModuleRelation(toggle, 2, 3, toggleTwo, toggleThree) },
		func() (impl.Rel, bool) { return impl.ModuleBest(toggle, 2, 3, toggleTwo, toggleThree) },
		func() (impl.Rel, bool) { return impl.ModuleRelation("o", 3, 3, 1, 1) },
		func() (impl.Rel, bool) { return impl.ModuleBest("o", 3, 3, 1, 1) },
		func() (impl.Rel, bool) { return impl.ModuleRelation("a", 1, 1, 0, 0) },
		func() (impl.Rel, bool) { return impl.ModuleBest("a", 1, 1, 0, 0) },
	} {
		first, ok := call()
		want := impl.Rel{Left: first.Left, Right: first.Right, Pairs: slices.Clone(first.Pairs)}
		if !ok {
			t.Errorf("a call fails that has %s", relText(first))
		}
		spoil(first.Pairs)
		again, ok := call()
		checkRel(t, "the same call again", again, ok, want)
	}
}
