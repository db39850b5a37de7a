package tests

import (
	"strings"
	"testing"

	"loop.example/parametric/impl"
)

func TestUnfoldedTermsByHand(t *testing.T) {
	cases := map[string]string{
		"x": "x", "true": "true", "(lam y y)": "(lam x0 x0)", "(app (lam y y) x0)": "(app (lam x1 x1) x0)", "(let f (lam x x) (app f f))": "(app (lam x0 x0) (lam x1 x1))", "(let x true x)": "true", "(let x y x)": "y", "(let x y (pair x x))": "(pair y y)", "(let x x x)": "x", "(let x x0 (lam y (app x y)))": "(lam x1 (app x0 x1))",
		// A name that is not free in the second part: the first part is kept as what a lam is applied to.
		"(let x true false)": "(app (lam x0 false) true)", "(let x true (lam x x))": "(app (lam x0 (lam x1 x1)) true)", "(let x x y)": "(app (lam x0 y) x)", "(let x (let y true false) z)": "(app (lam x0 z) (app (lam x1 false) true))", "(let x true (let x false x))": "(app (lam x0 false) true)", "(let x true (let y x false))": "(app (lam x0 false) true)", "(let x true (let x x x))": "true", "(let x true (let x x false))": "(app (lam x0 false) true)", "(let x (app y y) (lam z y))": "(app (lam x0 (lam x1 y)) (app y y))",
		// From the inside: a let in a part that is put many times, and in the second part.
		"(let x (let y true y) (pair x x))": "(pair true true)", "(let x (let y z (lam w y)) (app x x))": "(app (lam x0 z) (lam x1 z))", "(let x (let y z w) (pair x x))": "(pair (app (lam x0 w) z) (app (lam x1 w) z))", "(let x (lam z z) (let y (app x x) (pair y x)))": "(pair (app (lam x0 x0) (lam x1 x1)) (lam x2 x2))", "(let x true (let y (pair x x) (pair y y)))": "(pair (pair true true) (pair true true))",
		// Names that would be captured, and names bound further out that come nearer.
		"(lam y (let x y (lam y (app x y))))": "(lam x0 (lam x1 (app x0 x1)))", "(let x y (lam y x))": "(lam x0 y)", "(let x y (lam y (app y x)))": "(lam x0 (app x0 y))", "(lam z (let x (lam y z) (let z true (app x z))))": "(lam x0 (app (lam x1 x0) true))", "(lam a (lam b (let x (app a b) (lam c (app c (app x (app b a)))))))": "(lam x0 (lam x1 (lam x2 (app x2 (app (app x0 x1) (app x1 x0))))))",
		"(lam a (let x (lam b (app a b)) (lam b (lam c (app (app x b) (app c a))))))": "(lam x0 (lam x1 (lam x2 (app (app (lam x3 (app x0 x3)) x1) (app x2 x0)))))", "(lam a (let x true (let y a (lam b (pair y (pair x b))))))": "(lam x0 (lam x1 (pair x0 (pair true x1))))", "(lam a (let x true a))": "(lam x0 (app (lam x1 x0) true))", "(lam a (let x a (lam b a)))": "(lam x0 (app (lam x1 (lam x2 x0)) x0))", "(lam a (let x (lam b (let y b (lam c (pair y a)))) (lam d (app x d))))": "(lam x0 (lam x1 (app (lam x2 (lam x3 (pair x2 x0))) x1)))",
		// Terms that have no type, and terms that are not closed.
		"(let x (lam y (app y y)) (app x x))": "(app (lam x0 (app x0 x0)) (lam x1 (app x1 x1)))", "(let x (app true true) x)": "(app true true)", "(lam x (let y z (app y x0)))": "(lam x1 (app z x0))", "(if (let x y x) (let y x y) (let z (fst z) (snd z)))": "(if y x (snd (fst z)))",
	}
	for s, want := range cases {
		unfolded, ok := impl.InferUnfold(s)
		checkText(t, "InferUnfold of "+s, unfolded, ok, want)
		if own := unfoldText(read(s)); own != want {
			t.Errorf("the test has %q and %q", own, want)
		}
	}
}

// rowTerm returns a term of an odd number of atoms.
func rowTerm(atoms int) string {
	return around((atoms-1)/2, "(pair true ", "true", ")")
}

func TestUnfoldingThatBecomesTooLarge(t *testing.T) {
	sizes := map[int]bool{}
	for _, form := range []string{"(let x M (pair x x))", "(let x M (fst (pair x x)))", "(let y (fst M) (let x y (pair x x)))", "(let x true (let y (fst M) (pair y y)))", "(let x true (let y M (pair y (pair y x))))", "(let x (pair M M) y)", "(let x (pair M M) x)", "(let x (fst (pair M M)) y)", "(lam z (let x (pair M M) z))", "(let x true (fst (pair M M)))", "(let x true (pair M (pair M x)))", "(let a M (let b (pair a a) (pair b b)))", "(let a (fst M) (let b (pair a a) (fst (pair b b))))", "(let z (let y (let x M (pair x x)) (pair y true)) z)", "(fst (let x M (let y x (pair y (pair true y)))))", "(let x M (let y (pair x x) false))", "(let x M (let y false (pair x x)))"} {
		for atoms := 1; atoms <= 299; atoms += 2 {
			s := strings.ReplaceAll(form, "M", rowTerm(atoms))
			if impl.TermSize(s) < 0 {
				continue
			}
			x := read(s)
			unfolded, ok := impl.InferUnfold(s)
			checkText(t, "InferUnfold of "+s, unfolded, ok, unfoldText(x))
			whole, _ := x.unfolded(5000)
			if n := whole.size(); n < 297 || n > 304 {
				continue
			}
			sizes[whole.size()] = true
			if ok != (whole.size() <= impl.TermMax) {
				t.Errorf("InferUnfold of %q to %d atoms returns %v", short(s), whole.size(), ok)
			}
		}
	}
	for n := 298; n <= 303; n++ {
		if !sizes[n] {
			t.Errorf("the test has no term that unfolds to %d atoms", n)
		}
	}
	// The term that comes of a let the name of which is not used has one atom more.
	for more, want := range []bool{true, true, false} {
		s := around(294+more, "(fst ", "(let x true false)", ")")
		if unfolded, ok := impl.InferUnfold(s); ok != want || impl.TermSize(unfolded) != []int{299, 300, -1}[more] {
			t.Errorf("InferUnfold of %d atoms returns %d, %v", impl.TermSize(s), impl.TermSize(unfolded), ok)
		}
	}
}
