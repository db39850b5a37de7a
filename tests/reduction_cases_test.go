package tests

import (
	"math"
	"testing"

	"loop.example/parametric/impl"
)

func TestConstantsOfReduction(t *testing.T) {
	if impl.StepsMax != 300 {
		t.Errorf("StepsMax is %d", impl.StepsMax)
	}
}

// checkReduction compares everything that is told of the reduction of one term with what its tree tells.
func checkReduction(t *testing.T, x oneTerm) {
	t.Helper()
	s, count := x.String(), len(x.redexes())
	if n := impl.RedexCount(s); n != count {
		t.Errorf("RedexCount(%q) is %d and not %d", short(s), n, count)
	}
	if impl.NormalIs(s) != (count == 0) {
		t.Errorf("NormalIs(%q) is %v", short(s), count != 0)
	}
	step, ok := impl.Step(s)
	checkText(t, "Step of "+s, step, ok, x.stepText(0))
	for k := -2; k < count+2; k++ {
		step, ok := impl.StepInside(s, k)
		checkText(t, "StepInside of "+s, step, ok, x.stepText(k))
	}
	normal, ok := impl.NormalOf(s)
	checkText(t, "NormalOf of "+s, normal, ok, x.normalText())
	if impl.TermEqual(s, s) != ok {
		t.Errorf("TermEqual of %q and itself is %v", short(s), !ok)
	}
}

func TestReductionOfSmallTerms(t *testing.T) {
	for _, x := range smallTerms() {
		checkReduction(t, x)
	}
}

func TestReductionOfLargerTerms(t *testing.T) {
	for _, x := range reducedTerms(40) {
		checkReduction(t, x)
	}
}

func TestStepsByHand(t *testing.T) {
	cases := map[string]string{
		"(app (lam x (pair x x)) true)": "(pair true true)", "(fst (pair x y))": "x", "(snd (pair x y))": "y", "(if true x y)": "x", "(if false x y)": "y", "(let x y (pair x x))": "(pair y y)", "(app (lam x x) x)": "x", "(app (lam x x) (lam x x))": "(lam x0 x0)",
		// What is not used is left out, whatever it is.
		"(let x y z)": "z", "(let x (app y y) true)": "true", "(let x x y)": "y", "(let x true (lam x x))": "(lam x0 x0)", "(let x true (let x false x))": "(let x0 false x0)", "(app (lam x y) z)": "y", "(app (lam x true) " + omegaTerm + ")": "true", "(let x " + omegaTerm + " true)": "true", "(fst (pair x " + omegaTerm + "))": "x", "(if false " + omegaTerm + " x)": "x",
		// In let, the name is not bound in the first part.
		"(let x x x)": "x", "(let x (fst x) (pair x x))": "(pair (fst x) (fst x))", "(let x (lam y (app x y)) (app x x))": "(app (lam x0 (app x x0)) (lam x1 (app x x1)))",
		// Of redexes in each other, the outer one is replaced first.
		"(app (lam x (fst (pair x x))) (let y true y))": "(fst (pair (let x0 true x0) (let x1 true x1)))", "(fst (pair (fst (pair x y)) z))": "(fst (pair x y))", "(snd (pair (fst (pair x y)) (snd (pair x y))))": "(snd (pair x y))", "(if true (if false x y) z)": "(if false x y)", "(let x (fst (pair y z)) (snd (pair x x)))": "(snd (pair (fst (pair y z)) (fst (pair y z))))", "(let x (let y z y) (let y x x))": "(let x0 (let x1 z x1) (let x2 z x2))", "(app (lam x (app (lam y y) x)) z)": "(app (lam x0 x0) z)",
		// Of redexes beside each other, the first one is.
		"(pair (fst (pair x y)) (snd (pair x y)))": "(pair x (snd (pair x y)))", "(app (app (lam x x) y) (app (lam x x) z))": "(app y (app (lam x0 x0) z))", "(app x (fst (pair y z)))": "(app x y)", "(if x (fst (pair y z)) (let y z y))": "(if x y (let x0 z x0))", "(if (let b true b) x y)": "(if true x y)", "(if x y (fst (pair x y)))": "(if x y x)", "(if (if x y z) (if true x y) (if true y x))": "(if (if x y z) x (if true y x))",
		// A redex in a part of what only comes to be one.
		"(fst (if true (pair x y) z))": "(fst (pair x y))", "(app (fst (pair (lam x x) y)) z)": "(app (lam x0 x0) z)", "(fst (fst (pair (pair x y) z)))": "(fst (pair x y))", "(if (snd (pair x true)) y z)": "(if true y z)", "(app (app (lam x (lam y x)) z) (app (lam x x) y))": "(app (lam x0 z) (app (lam x1 x1) y))", "(app (let x y (lam z x)) true)": "(app (lam x0 y) true)", "(lam x (app (lam y y) x))": "(lam x0 x0)", "(lam x (lam y (snd (pair x y))))": "(lam x0 (lam x1 x1))",
		// Names that would be captured.
		"(lam y (app (lam x (lam y (app x y))) y))": "(lam x0 (lam x1 (app x0 x1)))", "(app (lam x (lam y (app x y))) y)": "(lam x0 (app y x0))", "(let x y (lam y x))": "(lam x0 y)", "(let x y (lam y (app x y)))": "(lam x0 (app y x0))", "(app (lam x (let y true (pair x y))) y)": "(let x0 true (pair y x0))", "(app (lam x (let y x y)) y)": "(let x0 y x0)", "(let x y (let y x (pair x y)))": "(let x0 y (pair y x0))", "(lam y (let x (fst y) (lam y (let y y (pair x y)))))": "(lam x0 (lam x1 (let x2 x1 (pair (fst x0) x2))))",
		"(lam z (lam y (app (lam x (lam y (lam z (app x (app y z))))) (app y z))))": "(lam x0 (lam x1 (lam x2 (lam x3 (app (app x1 x0) (app x2 x3))))))", "(app (lam x (lam x (app x x))) y)": "(lam x0 (app x0 x0))", "(app (lam x (app x (lam x x))) x)": "(app x (lam x0 x0))",
		// Names that are bound further out come nearer.
		"(lam a (lam b (app (lam c (app c (app a b))) (app b a))))": "(lam x0 (lam x1 (app (app x1 x0) (app x0 x1))))", "(lam a (let b true (lam c a)))": "(lam x0 (lam x1 x0))", "(lam a (fst (pair (lam b a) (lam b b))))": "(lam x0 (lam x1 x0))", "(lam a (app (lam b (lam c (app b (lam d (app a b))))) (lam e (app a e))))": "(lam x0 (lam x1 (app (lam x2 (app x0 x2)) (lam x3 (app x0 (lam x4 (app x0 x4)))))))",
		// Canonical names that are free are left out, as long as they are free.
		"(app (lam x (lam y (app x y))) x0)": "(lam x1 (app x0 x1))", "(lam y (app (lam x y) x0))": "(lam x0 x0)", "(lam y (fst (pair y x0)))": "(lam x0 x0)", "(lam y (fst (pair x0 y)))": "(lam x1 x0)", "(pair (let x x1 x) (lam x0 (app x0 x)))": "(pair x1 (lam x0 (app x0 x)))",
		// Terms that come back to themselves, and that grow.
		omegaTerm: "(app (lam x0 (app x0 x0)) (lam x1 (app x1 x1)))", "(app (lam x (app (app x x) x)) (lam x (app (app x x) x)))": "(app (app (lam x0 (app (app x0 x0) x0)) (lam x1 (app (app x1 x1) x1))) (lam x2 (app (app x2 x2) x2)))", "(let x (lam x (app x x)) (app x x))": "(app (lam x0 (app x0 x0)) (lam x1 (app x1 x1)))",
		// Terms without types have steps, too.
		"(if true true (pair x x))": "true", "(fst (pair true (fst true)))": "true", "(app (lam x (app x x)) true)": "(app true true)",
	}
	for s, want := range cases {
		step, ok := impl.Step(s)
		checkText(t, "Step of "+s, step, ok, want)
		checkReduction(t, read(s))
	}
}

func TestNormalTermsByHand(t *testing.T) {
	cases := map[string]string{
		"x": "x", "true": "true", "(lam x x)": "(lam x0 x0)", "(lam y x0)": "(lam x1 x0)", "(app x y)": "(app x y)", "(fst x)": "(fst x)", "(snd (fst x))": "(snd (fst x))", "(if x y z)": "(if x y z)", "(pair x (lam x x))": "(pair x (lam x0 x0))",
		// Heads that meet the wrong first part.
		"(app true x)": "(app true x)", "(app (pair x y) z)": "(app (pair x y) z)", "(app x (lam y y))": "(app x (lam x0 x0))", "(app (app x (lam y y)) z)": "(app (app x (lam x0 x0)) z)", "(app (fst x) (lam y y))": "(app (fst x) (lam x0 x0))", "(app (if x (lam y y) z) z)": "(app (if x (lam x0 x0) z) z)",
		"(fst true)": "(fst true)", "(fst (lam x x))": "(fst (lam x0 x0))", "(fst (snd x))": "(fst (snd x))", "(snd (lam x (pair x x)))": "(snd (lam x0 (pair x0 x0)))", "(snd (app x (pair x y)))": "(snd (app x (pair x y)))", "(fst (if x (pair x x) (pair y y)))": "(fst (if x (pair x x) (pair y y)))",
		"(if (lam x x) y z)": "(if (lam x0 x0) y z)", "(if (pair true true) x y)": "(if (pair true true) x y)", "(if x true false)": "(if x true false)", "(if (fst true) true true)": "(if (fst true) true true)", "(pair true (pair true false))": "(pair true (pair true false))",
	}
	for s, want := range cases {
		if !impl.NormalIs(s) || impl.RedexCount(s) != 0 {
			t.Errorf("%q is not taken as normal, with %d redexes", s, impl.RedexCount(s))
		}
		normal, ok := impl.NormalOf(s)
		checkText(t, "NormalOf of "+s, normal, ok, want)
		checkNoSteps(t, s)
	}
}

// checkNoSteps checks that no step is made in a term, and that it stays as it is written where as many as there are were asked.
func checkNoSteps(t *testing.T, s string) {
	t.Helper()
	step, ok := impl.Step(s)
	checkText(t, "Step of "+s, step, ok, "")
	for _, k := range []int{math.MinInt, -1, 0, 1, 2, math.MaxInt} {
		step, ok := impl.StepInside(s, k)
		checkText(t, "StepInside of "+s, step, ok, "")
	}
	for _, n := range []int{0, 1, 2, impl.StepsMax} {
		checkMany(t, s, n, s, 0)
	}
}

func checkMany(t *testing.T, s string, n int, want string, made int) {
	t.Helper()
	if result, steps, ok := impl.StepMany(s, n); !ok || result != want || steps != made {
		t.Errorf("StepMany(%q, %d) returns %q, %d, %v and not %q, %d", short(s), n, short(result), steps, ok, short(want), made)
	}
}

func TestNormalFormsByHand(t *testing.T) {
	// "" stands for none.
	cases := map[string]string{
		"(app (lam x (fst (pair x x))) (let y true y))": "true", "(if (fst (pair true false)) false true)": "false", "(app (lam x (lam y x)) z)": "(lam x0 z)", "(lam x (app (lam y (app y x)) (lam y (app x y))))": "(lam x0 (app x0 x0))", "(let f (lam x x) (app f (app f f)))": "(lam x0 x0)", "(let f (lam x (pair x x)) (app f (app f true)))": "(pair (pair true true) (pair true true))",
		"(app (app " + plusTerm + " " + numeral(2) + ") " + numeral(3) + ")": "(lam x0 (lam x1 (app x0 (app x0 (app x0 (app x0 (app x0 x1)))))))", "(app (app " + timesTerm + " " + numeral(2) + ") " + numeral(2) + ")": "(lam x0 (lam x1 (app x0 (app x0 (app x0 (app x0 x1))))))", "(app (app " + powerTerm + " " + numeral(2) + ") " + numeral(3) + ")": "(lam x0 (lam x1 " + around(8, "(app x0 ", "x1", ")") + "))", "(app (app " + numeral(3) + " " + notTerm + ") true)": "false",
		// There is no normal term, or a way that leads by it.
		omegaTerm: "", "(pair true " + omegaTerm + ")": "", "(lam y " + omegaTerm + ")": "", "(app x " + omegaTerm + ")": "", "(app (lam x (app (app x x) x)) (lam x (app (app x x) x)))": "", "(app (lam x true) " + omegaTerm + ")": "true", "(snd (pair " + omegaTerm + " x))": "x", "(if true x " + omegaTerm + ")": "x", "(let x " + omegaTerm + " y)": "y", "(app (lam x (app (lam y (lam z z)) (app x x))) (lam x (app x x)))": "(lam x0 x0)", "(app (lam f (app (lam x (app f (app x x))) (lam x (app f (app x x))))) (lam x true))": "true", "(app (lam f (app (lam x (app f (app x x))) (lam x (app f (app x x))))) (lam x x))": "",
	}
	for s, want := range cases {
		normal, ok := impl.NormalOf(s)
		checkText(t, "NormalOf of "+s, normal, ok, want)
		checkReduction(t, read(s))
	}
}

func TestRedexesByHand(t *testing.T) {
	// Behind the term is what a step at each redex makes of it, in order.
	cases := [][]string{
		{"x"}, {"(lam x (app x x))"}, {"(let x y x)", "y"}, {"(let x (let y z y) x)", "(let x0 z x0)", "(let x0 z x0)"}, {omegaTerm, "(app (lam x0 (app x0 x0)) (lam x1 (app x1 x1)))"},
		{"(app (lam x (fst (pair x x))) (let y true y))", "(fst (pair (let x0 true x0) (let x1 true x1)))", "(app (lam x0 x0) (let x1 true x1))", "(app (lam x0 (fst (pair x0 x0))) true)"},
		{"(if (if true false true) (if false x y) (let z x z))", "(if false (if false x y) (let x0 x x0))", "(if (if true false true) y (let x0 x x0))", "(if (if true false true) (if false x y) x)"},
		{"(if true (if false x y) (let z x z))", "(if false x y)", "(if true y (let x0 x x0))", "(if true (if false x y) x)"}, {"(if (if true x y) (snd (pair x y)) z)", "(if x (snd (pair x y)) z)", "(if (if true x y) y z)"},
		{"(let x (fst (pair y z)) (snd (pair x x)))", "(snd (pair (fst (pair y z)) (fst (pair y z))))", "(let x0 y (snd (pair x0 x0)))", "(let x0 (fst (pair y z)) x0)"},
		{"(fst (pair (snd (pair x y)) (fst (pair y x))))", "(snd (pair x y))", "(fst (pair y (fst (pair y x))))", "(fst (pair (snd (pair x y)) y))"},
		{"(fst (fst (pair (pair x y) z)))", "(fst (pair x y))"}, {"(fst (fst (fst (pair (fst (pair x y)) z))))", "(fst (fst (fst (pair x y))))", "(fst (fst (fst (pair x z))))"},
		{"(lam y (app (lam x (app (lam z (app x z)) y)) (app y y)))", "(lam x0 (app (lam x1 (app (app x0 x0) x1)) x0))", "(lam x0 (app (lam x1 (app x1 x0)) (app x0 x0)))"},
		{"(app (app (lam x (lam y (let z y x))) (fst (pair a b))) (if true a b))", "(app (lam x0 (let x1 x0 (fst (pair a b)))) (if true a b))", "(app (app (lam x0 (lam x1 x0)) (fst (pair a b))) (if true a b))", "(app (app (lam x0 (lam x1 (let x2 x1 x0))) a) (if true a b))", "(app (app (lam x0 (lam x1 (let x2 x1 x0))) (fst (pair a b))) a)"},
		// Names around the redex that would be captured, and one that is free no more.
		{"(lam x (let y x (app (lam z (lam y z)) y)))", "(lam x0 (app (lam x1 (lam x2 x1)) x0))", "(lam x0 (let x1 x0 (lam x2 x1)))"}, {"(let y x0 (lam x (app (lam z x) y)))", "(lam x1 (app (lam x2 x1) x0))", "(let x1 x0 (lam x2 x2))"}, {"(pair (fst (pair x x0)) (lam y (snd (pair x0 y))))", "(pair x (lam x1 (snd (pair x0 x1))))", "(pair (fst (pair x x0)) (lam x1 x1))"}, {"(lam y (fst (pair (let z y z) x0)))", "(lam x0 (let x1 x0 x1))", "(lam x1 (fst (pair x1 x0)))"},
	}
	for _, c := range cases {
		s, count := c[0], len(c)-1
		if n := impl.RedexCount(s); n != count {
			t.Errorf("RedexCount(%q) is %d and not %d", s, n, count)
		}
		for k, want := range c[1:] {
			step, ok := impl.StepInside(s, k)
			checkText(t, "StepInside of "+s, step, ok, want)
		}
		for _, k := range []int{-1, -2, -count, -count - 1, count, count + 1, 300, math.MinInt, math.MaxInt} {
			if k < 0 || k >= count {
				step, ok := impl.StepInside(s, k)
				checkText(t, "StepInside of "+s, step, ok, "")
			}
		}
		checkReduction(t, read(s))
	}
}

func TestManyStepsByHand(t *testing.T) {
	cases := [][]string{
		// Without a step the term stays as it is written; behind it are those behind each step.
		{"(if (fst (pair true false)) false true)", "(if true false true)", "false"}, {"(lam y y)"}, {"(lam y (let x y x))", "(lam x0 x0)"}, {"x0"}, {"(fst (fst (pair (pair (fst (pair x y)) y) z)))", "(fst (pair (fst (pair x y)) y))", "(fst (pair x y))", "x"},
		{"(app (lam x (fst (pair x x))) (let y true y))", "(fst (pair (let x0 true x0) (let x1 true x1)))", "(let x0 true x0)", "true"}, {"(app (lam x (pair x x)) (let y true y))", "(pair (let x0 true x0) (let x1 true x1))", "(pair true (let x0 true x0))", "(pair true true)"}, {"(let f (lam y y) (app f f))", "(app (lam x0 x0) (lam x1 x1))", "(lam x0 x0)"},
	}
	for _, c := range cases {
		last := len(c) - 1
		for n := range c {
			checkMany(t, c[0], n, c[n], n)
		}
		for _, n := range []int{last + 1, last + 2, 299, impl.StepsMax} {
			checkMany(t, c[0], n, c[last], last)
		}
		for _, n := range []int{-1, -300, impl.StepsMax + 1, math.MinInt, math.MaxInt} {
			checkNotMany(t, c[0], n)
		}
	}
}

func checkNotMany(t *testing.T, s string, n int) {
	t.Helper()
	if result, made, ok := impl.StepMany(s, n); ok || result != "" || made != 0 {
		t.Errorf("StepMany(%q, %d) returns %q, %d, %v", short(s), n, short(result), made, ok)
	}
}

func TestEqualTermsByHand(t *testing.T) {
	for _, c := range [][2]string{
		{"x", "x"}, {"(lam x x)", "(lam y y)"}, {"(app (lam x (fst (pair x x))) (let y true y))", "true"}, {"(lam y (app (lam x (lam y x)) y))", "(lam x (lam y x))"}, {"(let x y x)", "(fst (pair y z))"}, {"(app (lam x true) " + omegaTerm + ")", "true"},
		{"(app (app " + plusTerm + " " + numeral(2) + ") " + numeral(2) + ")", "(app (app " + timesTerm + " " + numeral(2) + ") " + numeral(2) + ")"}, {"(app (app " + powerTerm + " " + numeral(2) + ") " + numeral(2) + ")", numeral(4)}, {"(app " + numeral(2) + " " + numeral(3) + ")", numeral(9)},
	} {
		if !impl.TermEqual(c[0], c[1]) || !impl.TermEqual(c[1], c[0]) {
			t.Errorf("%q and %q are not equal", c[0], c[1])
		}
	}
	for _, c := range [][2]string{
		{"x", "y"}, {"true", "false"}, {"(lam x x)", "(lam x y)"}, {"(lam x (lam y x))", "(lam x (lam y y))"}, {"(lam x (app f x))", "f"}, {"(pair (fst x) (snd x))", "x"}, {"(if x y y)", "y"}, {"(lam y (fst (pair y x0)))", "(lam y (fst (pair x0 y)))"},
		{omegaTerm, omegaTerm}, {omegaTerm, "true"}, {omegaTerm, ""}, {"", ""}, {"x", "(x)"}, {"(fst (pair x y))", "(fst (pair x y)"}, {numeral(2), numeral(3)},
	} {
		if impl.TermEqual(c[0], c[1]) || impl.TermEqual(c[1], c[0]) {
			t.Errorf("%q and %q are equal", c[0], c[1])
		}
	}
}

func TestReductionOfTextsThatAreNoTerms(t *testing.T) {
	for _, s := range badTerms() {
		if n := impl.RedexCount(s); n != -1 || impl.NormalIs(s) {
			t.Errorf("RedexCount(%q) is %d and NormalIs %v", short(s), n, impl.NormalIs(s))
		}
		step, ok := impl.Step(s)
		checkText(t, "Step of "+s, step, ok, "")
		normal, ok := impl.NormalOf(s)
		checkText(t, "NormalOf of "+s, normal, ok, "")
		for _, n := range []int{-1, 0, 1, impl.StepsMax, impl.StepsMax + 1} {
			checkNotMany(t, s, n)
			step, ok := impl.StepInside(s, n)
			checkText(t, "StepInside of "+s, step, ok, "")
		}
		if impl.TermEqual(s, s) || impl.TermEqual(s, "true") || impl.TermEqual("true", s) || impl.TermEqual(s, "") {
			t.Errorf("TermEqual takes %q", short(s))
		}
	}
}
