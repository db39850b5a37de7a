package tests

import (
	"fmt"
	"strings"
	"testing"

	"loop.example/parametric/impl"
)

// farTerm returns a term that comes to false by a number of steps, at least 256, which are more than it has atoms.
func farTerm(steps int) string {
	power := "(app (app (app " + numeral(6) + " " + numeral(2) + ") " + notTerm + ") false)"
	return around(steps-256, "(fst (pair ", power, " true))")
}

func TestTermsThatAreManyStepsAway(t *testing.T) {
	for _, steps := range []int{256, 257, 297, 298, 299, 300, 301, 302, 303, 320, 340} {
		s := farTerm(steps)
		if n := len(read(s).walk(1000)) - 1; n != steps {
			t.Fatalf("the test has a term of %d steps and not %d", n, steps)
		}
		within := steps <= impl.StepsMax
		last, made, ok := impl.StepMany(s, impl.StepsMax)
		if !ok || made != min(steps, impl.StepsMax) || impl.NormalIs(last) != within || (last == "false") != within {
			t.Errorf("StepMany of a term of %d steps returns %q, %d, %v", steps, last, made, ok)
		}
		if last, made, ok := impl.StepMany(last, impl.StepsMax); !ok || last != "false" || made != max(0, steps-impl.StepsMax) {
			t.Errorf("StepMany goes on to %q by %d steps of %d", last, made, steps)
		}
		want := ""
		if within {
			want = "false"
		}
		normal, ok := impl.NormalOf(s)
		checkText(t, fmt.Sprintf("NormalOf of a term of %d steps", steps), normal, ok, want)
		if impl.TermEqual(s, s) != within || impl.TermEqual(s, "false") != within || impl.TermEqual("false", s) != within {
			t.Errorf("TermEqual of a term of %d steps is %v", steps, !within)
		}
	}
}

func TestNumbersOfSteps(t *testing.T) {
	s := farTerm(300)
	all := read(s).walk(impl.StepsMax)
	for n := 0; n <= impl.StepsMax; n++ {
		want := s
		if n > 0 {
			want = all[n].String()
		}
		checkMany(t, s, n, want, n)
	}
	for _, n := range []int{-300, -2, -1, 301, 302, 600} {
		checkNotMany(t, s, n)
		checkNotMany(t, "true", n)
	}
}

func TestTermsThatComeBackToThemselves(t *testing.T) {
	for _, form := range []string{"M", "(pair x M)", "(pair M (fst (pair x y)))", "(lam y M)", "(app x M)", "(if x M true)", "(fst M)", "(app M (app (lam x x) y))"} {
		s := strings.ReplaceAll(form, "M", omegaTerm)
		canon, _ := impl.TermCanon(s)
		for _, n := range []int{1, 2, 3, 100, 299, 300} {
			checkMany(t, s, n, canon, n)
		}
		checkMany(t, s, 0, s, 0)
		checkNotMany(t, s, 301)
		normal, ok := impl.NormalOf(s)
		checkText(t, "NormalOf of "+s, normal, ok, "")
		if impl.TermEqual(s, s) || impl.NormalIs(s) {
			t.Errorf("%q is taken as normal, or as equal to a term", s)
		}
	}
	// It comes back only behind two steps.
	twice := "(app (lam x (app (lam y (app y y)) x)) (lam x (app (lam y (app y y)) x)))"
	canon, _ := impl.TermCanon(twice)
	between, ok := impl.Step(twice)
	if !ok || impl.TermAlike(between, twice) {
		t.Errorf("Step(%q) returns %q", twice, between)
	}
	for n := 1; n <= impl.StepsMax; n++ {
		checkMany(t, twice, n, []string{canon, between}[n%2], n)
	}
}

func TestTermsThatGrow(t *testing.T) {
	for _, s := range []string{"(app (lam x (app (app x x) x)) (lam x (app (app x x) x)))", "(app (lam x (pair true (app x x))) (lam x (pair true (app x x))))", "(app (lam x (lam y (app x x))) (lam x (lam y (app x x))))", "(app (lam x (fst (app x x))) (lam x (fst (app x x))))"} {
		all := read(s).walk(impl.StepsMax)
		last := all[len(all)-1]
		checkMany(t, s, impl.StepsMax, last.String(), len(all)-1)
		if len(all) > impl.StepsMax {
			continue
		}
		// No step is left, though the last term is not normal.
		step, ok := impl.Step(last.String())
		checkText(t, "Step of "+last.String(), step, ok, "")
		if impl.NormalIs(last.String()) || impl.RedexCount(last.String()) < 1 {
			t.Errorf("%q is taken as normal", short(last.String()))
		}
		checkMany(t, s, len(all), last.String(), len(all)-1)
		checkMany(t, s, len(all)-1, last.String(), len(all)-1)
		checkMany(t, s, len(all)-2, all[len(all)-2].String(), len(all)-2)
		normal, ok := impl.NormalOf(s)
		checkText(t, "NormalOf of "+s, normal, ok, "")
	}
}

func TestStepsThatBecomeTooLarge(t *testing.T) {
	sizes := map[int]bool{}
	for _, form := range []string{"(app (lam x (pair x x)) M)", "(let x M (pair x x))", "(fst (app (lam x (pair x x)) M))", "(fst (let x M (pair x x)))", "(lam y (let x (pair M y) (pair x x)))", "(app (lam x (if x x x)) M)", "(pair (let x M (pair x x)) (fst (pair true M)))", "(let x M (pair x (let y x (pair y x))))", "(app (lam x (app x (app x x))) (fst M))"} {
		for atoms := 1; atoms <= 299; atoms += 2 {
			s := strings.ReplaceAll(form, "M", rowTerm(atoms))
			if impl.TermSize(s) < 0 {
				continue
			}
			x := read(s)
			for k, p := range x.redexes() {
				n := x.steppedAt(p).size()
				if n < 290 || n > 310 {
					continue
				}
				sizes[n] = true
				step, ok := impl.StepInside(s, k)
				checkText(t, "StepInside of "+s, step, ok, x.stepText(k))
				if ok != (n <= impl.TermMax) || ok && impl.TermSize(step) != n {
					t.Errorf("StepInside of %q to %d atoms returns %d, %v", short(s), n, impl.TermSize(step), ok)
				}
				checkReduction(t, x)
			}
		}
	}
	for n := 298; n <= 303; n++ {
		if !sizes[n] {
			t.Errorf("the test has no step to %d atoms", n)
		}
	}
}

func TestStepsBesideOneThatBecomesTooLarge(t *testing.T) {
	row, twice := rowTerm(199), "(app (lam x (pair x x)) "+rowTerm(199)+")"
	// Just the first redex is the one of a step, even if its step fails and another one does not.
	s := "(pair " + twice + " (fst (pair true false)))"
	step, ok := impl.Step(s)
	checkText(t, "Step of "+s, step, ok, "")
	step, ok = impl.StepInside(s, 1)
	checkText(t, "StepInside of "+s, step, ok, "(pair (app (lam x0 (pair x0 x0)) "+row+") true)")
	checkMany(t, s, impl.StepsMax, s, 0)
	// There is no normal term on the way, though a smaller one is at the end.
	for s, made := range map[string]int{"(fst " + twice + ")": 0, "(let x " + row + " (let y (pair x true) (snd (pair (pair y y) false))))": 1, "(snd (pair true (fst " + twice + ")))": 1, "(if true (let y true (fst " + twice + ")) false)": 2} {
		all := read(s).walk(impl.StepsMax)
		if len(all)-1 != made {
			t.Fatalf("the test has %d steps and not %d", len(all)-1, made)
		}
		last := s
		if made > 0 {
			last = all[made].String()
		}
		for _, n := range []int{made, made + 1, impl.StepsMax} {
			checkMany(t, s, n, last, made)
		}
		normal, ok := impl.NormalOf(s)
		checkText(t, "NormalOf of "+s, normal, ok, "")
		if impl.NormalIs(last) || impl.TermEqual(s, s) {
			t.Errorf("%q is taken as normal, or as equal to a term", short(last))
		}
	}
	// What would become larger is left out ahead of its own step.
	for _, s := range []string{"(fst (pair true " + twice + "))", "(let x " + twice + " true)", "(if false " + twice + " true)"} {
		normal, ok := impl.NormalOf(s)
		checkText(t, "NormalOf of "+s, normal, ok, "true")
	}
}

// Terms with as many redexes as there can be, in each other and beside each other.
func TestManyRedexes(t *testing.T) {
	for _, c := range []struct {
		s     string
		count int
	}{
		{around(99, "(fst (pair ", "true", " x))"), 99}, {around(99, "(snd (pair x ", "true", "))"), 99}, {around(99, "(let x y ", "true", ")"), 99}, {around(99, "(let x ", "true", " y)"), 99}, {around(99, "(if true ", "x", " y)"), 99}, {around(99, "(if false x ", "true", ")"), 99}, {around(74, "(app (lam x ", "true", ") y)"), 74}, {around(74, "(app (lam x x) ", "true", ")"), 74}, {around(59, "(pair (let x y x) ", "true", ")"), 59},
	} {
		if n := impl.RedexCount(c.s); n != c.count {
			t.Errorf("RedexCount(%q) is %d and not %d", short(c.s), n, c.count)
		}
		checkReduction(t, read(c.s))
	}
}
