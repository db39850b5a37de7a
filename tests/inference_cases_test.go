package tests

import (
	"fmt"
	"slices"
	"strings"
	"testing"

	"loop.example/parametric/impl"
)

// checkInfer compares what is told of the types of a closed term, and of it unfolded, with what the tests find on their own.
func checkInfer(t *testing.T, x oneTerm) {
	t.Helper()
	s, want := x.String(), kindText(t, x)
	kind, ok := impl.Infer(s)
	checkText(t, "Infer of "+s, kind, ok, want)
	if impl.InferTyped(s) != (want != "") || impl.InferHas(s, want) != (want != "") {
		t.Errorf("%q: InferTyped returns %v and InferHas of %q %v", short(s), impl.InferTyped(s), want, impl.InferHas(s, want))
	}
	unfolded, ok := impl.InferUnfold(s)
	checkText(t, "InferUnfold of "+s, unfolded, ok, unfoldText(x))
}

func TestTypesOfClosedTerms(t *testing.T) {
	for _, x := range append(smallClosed(7), closedTerms(3)...) {
		checkInfer(t, x)
	}
}

func TestPrincipalTypesByHand(t *testing.T) {
	cases := map[string]string{
		"true": "o", "false": "o", "(lam x x)": "(> a a)", "(lam x true)": "(> a o)", "(lam x (lam y x))": "(> a (> b a))", "(lam x (lam y (pair y x)))": "(> a (> b (* b a)))", "(lam x (lam x x))": "(> a (> b b))",
		"(app (lam x x) true)": "o", "(lam f (lam x (app f x)))": "(> (> a b) (> a b))", "(lam f (app f true))": "(> (> o a) a)", "(lam x (lam f (app f x)))": "(> a (> (> a b) b))", "(app true false)": "", "(app true (lam x x))": "", "(app (lam x x) (lam x x))": "(> a a)",
		"(pair true (lam x x))": "(* o (> a a))", "(fst (pair true (lam x x)))": "o", "(snd (pair true (lam x x)))": "(> a a)", "(lam p (fst p))": "(> (* a b) a)", "(lam p (snd p))": "(> (* a b) b)", "(lam p (pair (snd p) (fst p)))": "(> (* a b) (* b a))", "(fst true)": "", "(snd (lam x x))": "", "(app (pair true true) true)": "",
		"(if true false true)": "o", "(lam b (lam x (lam y (if b x y))))": "(> o (> a (> a a)))", "(if (lam x x) true true)": "", "(if true true (lam x x))": "", "(if true (lam x x) (lam y true))": "(> o o)", "(lam x (if x x x))": "(> o o)", "(lam x (if true x (pair x x)))": "", "(if (pair true true) true true)": "",
		"(lam x (lam y (lam z (app (app x z) (app y z)))))": "(> (> a (> b c)) (> (> a b) (> a c)))", "(lam f (lam g (lam x (app f (app g x)))))": "(> (> a b) (> (> c a) (> c b)))", "(lam n (lam f (lam x (app f (app (app n f) x)))))": "(> (> (> a b) (> c a)) (> (> a b) (> c b)))",
		// A name bound by lam has one type at all places.
		"(lam x (app x x))": "", "(lam f (pair (app f true) (app f (lam x x))))": "", "(lam f (pair (app f true) (app f f)))": "", "(lam f (pair (app f true) (app f false)))": "(> (> o a) (* a a))", "(app (lam f (pair (app f true) (app f (lam x x)))) (lam x x))": "", "(app (lam f (app f f)) (lam x x))": "", "(app (lam i (pair (app i true) i)) (lam x x))": "(* o (> o o))", "(lam x (pair (fst x) (app x true)))": "", "(lam x (if x (fst x) true))": "",
		// A name bound by let may have another type at each place.
		"(let f (lam x x) (app f f))": "(> a a)", "(let f (lam x x) (pair (app f true) f))": "(* o (> a a))", "(let f (lam x x) (pair (app f true) (app f (lam x x))))": "(* o (> a a))", "(let f (lam x x) (pair f f))": "(* (> a a) (> b b))", "(let f (lam x x) (if (app f true) f (lam y (if y y y))))": "(> o o)", "(let p (pair (lam x x) true) (app (app (fst p) (fst p)) (snd p)))": "o",
		"(let k (lam x (lam y x)) (pair (app (app k true) k) (app k k)))": "(* o (> a (> b (> c b))))", "(let f (lam x (fst x)) (pair (app f (pair true f)) (app f (pair f true))))": "(* o (> (* a b) a))", "(let f true (app f f))": "", "(let f (lam x true) (pair (app f f) (app f true)))": "(* o o)", "(let f (lam x (if x x x)) (app f f))": "", "(let f (lam x (if x x x)) (pair (app f true) f))": "(* o (> o o))",
		"(let f (lam x x) (let g (lam y (app f y)) (pair (app g true) (app g f))))": "(* o (> a a))", "(let f (lam x x) (let f (lam y f) (app f f)))": "(> a a)", "(let x (let x (lam x x) (app x x)) (app x x))": "(> a a)", "(let d (lam x (pair x x)) (let d (lam x (app d (app d x))) (app d true)))": "(* (* o o) (* o o))",
		// What the names around have is the same at all places, if the name of let is one of them or made of them.
		"(lam x (let y x (pair y y)))": "(> a (* a a))", "(lam x (let y x (app y y)))": "", "(lam x (let y x (pair (app y true) (app y y))))": "", "(lam x (let f (lam z x) (pair (app f true) (app f f))))": "(> a (* a a))", "(lam x (let f (lam z (pair x z)) (pair (app f true) (app f f))))": "(> a (* (* a o) (* a (> b (* a b)))))", "(lam f (let g (lam x (app f x)) (pair (app g true) (app g g))))": "", "(lam f (let g (lam x (app f x)) (pair (app g true) (app g false))))": "(> (> o a) (* a a))",
		"(lam f (let x (app f true) (pair x f)))": "(> (> o a) (* a (> o a)))", "(lam f (let x (app f true) f))": "(> (> o a) (> o a))", "(lam x (let y (lam z (if true x z)) (pair (app y true) y)))": "(> o (* o (> o o)))", "(lam x (let y (pair x (lam z z)) (pair (app (snd y) true) (app (snd y) (fst y)))))": "(> a (* o a))", "(lam x (pair (let y x (app y true)) (app x false)))": "(> (> o a) (* a a))", "(lam x (pair (let y x (app y true)) (fst x)))": "",
		// A name around that is known further on only.
		"(lam x (pair (let y x (pair y y)) (if x x x)))": "(> o (* (* o o) o))", "(lam x (let f (lam z (pair x z)) (pair (pair (app f true) (app f f)) (app x true))))": "(> (> o a) (* (* (* (> o a) o) (* (> o a) (> b (* (> o a) b)))) a))", "(lam x (let f (lam z x) (pair (app (app f true) true) (app (app f f) (lam y y)))))": "",
		"(lam x (let f x (pair (fst f) (let g f (snd g)))))": "(> (* a b) (* a b))", "(lam x (let f (lam z x) (let g (lam z (app f z)) (if true (app g true) (app g f)))))": "(> a a)", "(lam x (lam y (let f (lam z (if true x y)) (pair (app f true) (pair (app f f) y)))))": "(> a (> a (* a (* a a))))",
		// A let inside the first part of another one, and inside lam in it.
		"(let f (let g (lam x x) (pair g g)) (pair (app (fst f) true) (app (snd f) f)))": "(* o (* (> a a) (> b b)))", "(let f (lam y (let g (lam z y) (pair (app g true) (app g g)))) (pair (app f true) (app f f)))": "(* (* o o) (* (> a (* a a)) (> a (* a a))))", "(let f (lam y (let g y (app g g))) true)": "", "(let f (lam y (let g y (app g true))) f)": "(> (> o a) a)", "(lam y (let f (let g y (lam z (if true g z))) (pair (app f y) f)))": "(> a (* a (> a a)))",
		"(let f (lam x (let g (if x true true) g)) f)": "(> o o)", "(let f (lam x (let g (if x true true) g)) (app f (lam y y)))": "", "(let f (lam x (let g (let h (app x true) h) (pair g g))) (pair (app f (lam y y)) f))": "(* (* o o) (> (> o a) (* a a)))",
		// A name of let that is not free in its second part, and first parts that have no type.
		"(let x true false)": "o", "(let x (lam y y) true)": "o", "(let x (lam y (app y y)) true)": "", "(let x (app true true) (lam y y))": "", "(let x true (lam x x))": "(> a a)", "(lam y (let x (app y true) true))": "(> (> o a) o)", "(lam y (let x (app y true) (fst y)))": "", "(lam y (let x (app y y) true))": "", "(lam y (let x (if y true true) y))": "(> o o)", "(let x (let y (fst true) true) true)": "", "(let x (lam y y) (let z (app true x) x))": "", "(let x (lam y (app y y)) (app x x))": "",
		"(fst (pair true (lam x (app x x))))": "", "(fst (pair true (app true true)))": "", "(if true true (fst (pair true (lam x (app x x)))))": "", "(let f (fst (pair (lam x x) (lam x (app x x)))) (app f f))": "", "(app (lam x true) (lam x (app x x)))": "", "(snd (pair (fst true) true))": "",
		// Types that would be parts of themselves, far apart.
		"(lam x (lam y (if true (app x y) (app y x))))": "", "(lam x (lam y (pair (if true x (lam z y)) (if true y (lam z x)))))": "", "(lam f (lam x (if true f (app f x))))": "", "(lam f (lam x (app (app f x) f)))": "", "(lam x (if true x (lam y x)))": "", "(lam p (if true p (pair p true)))": "", "(lam x (lam y (lam z (if true (if true x (pair y y)) (if true (pair z z) (if true (pair x x) x))))))": "",
		// Names that are bound anew.
		"(lam x (let x (app x true) x))": "(> (> o a) a)", "(lam x (let x (lam y x) (app x x)))": "(> a a)", "(let x (lam x (app x true)) (app x (lam x x)))": "o", "(let x true (let x (lam x x) (app x x)))": "(> a a)", "(let x (lam x x) (lam x (app x x)))": "", "(lam x (app (lam x x) x))": "(> a a)", "(let x (lam x x) (let y (app x true) (let x y x)))": "o",
	}
	for s, want := range cases {
		kind, ok := impl.Infer(s)
		checkText(t, "Infer of "+s, kind, ok, want)
		checkInfer(t, read(s))
	}
}

// tuple returns a term of pairs of a number of functions, each of which has a variable of its own in its type.
func tuple(parts int) string {
	return around(parts-1, "(pair (lam x x) ", "(lam x x)", ")")
}

// lamRow returns a term with a number of lam around a last part.
func lamRow(count int, last string) string {
	return around(count, "(lam y ", last, ")")
}

func tupleType(parts int) string {
	s := ""
	for i := range parts - 1 {
		s += fmt.Sprintf("(* (> %c %c) ", allLetters[i], allLetters[i])
	}
	last := allLetters[parts-1]
	return s + fmt.Sprintf("(> %c %c)", last, last) + strings.Repeat(")", parts-1)
}

// Types of more than TypeMax atoms and of more than 25 variables are no results, but parts of terms have them.
func TestPrincipalTypesThatAreTooLarge(t *testing.T) {
	for n := 1; n <= 40; n++ {
		wantTuple, wantRow := "", ""
		if n <= 10 {
			wantTuple = tupleType(n)
		}
		if n <= 19 {
			wantRow = row(allLetters[:n] + "o")
		}
		inner := []string{tuple(n), wantTuple, lamRow(n, "true"), wantRow}
		for i := 0; i < len(inner); i += 2 {
			s, want := inner[i], inner[i+1]
			if n > 20 && i == 0 {
				checkLargeParts(t, s)
				continue
			}
			kind, ok := impl.Infer(s)
			checkText(t, "Infer of "+s, kind, ok, want)
			if impl.InferTyped(s) != (want != "") || impl.InferHas(s, "o") || impl.InferHas(s, "a") || impl.InferHas(s, want) != (want != "") {
				t.Errorf("InferTyped or InferHas takes %q wrongly", short(s))
			}
			checkLargeParts(t, s)
		}
	}
	// 26 and more variables on the way to a type of few.
	for n := 20; n <= 60; n++ {
		for _, left := range []int{19, 20} {
			s, want := around(n-left, "(app ", lamRow(n, "true"), " true)"), row(allLetters[:19]+"o")
			if left == 20 {
				want = ""
			}
			kind, ok := impl.Infer(s)
			checkText(t, "Infer of "+s, kind, ok, want)
		}
	}
}

// checkLargeParts checks terms in which a part has a type that may be too large, and others that have no type.
func checkLargeParts(t *testing.T, s string) {
	t.Helper()
	for form, want := range map[string]string{
		"(fst (pair true M))": "o", "(snd (pair M true))": "o", "(let x M true)": "o", "(let x M (fst (pair true x)))": "o", "(let x M (fst (pair true (pair x x))))": "o", "(app (lam x true) M)": "o", "(lam y (let x (pair M y) (snd x)))": "(> a a)", "(lam y (let x (pair y M) (snd (pair x true))))": "(> a o)",
		"(fst (pair true (app (lam x x) M)))": "o", "(app (lam z true) (if true M M))": "o", "(fst (pair true (if M true true)))": "", "(fst (pair M (fst true)))": "", "(let x M (app true x))": "", "(app (lam x (app x x)) M)": "", "(let x (pair M (fst true)) true)": "",
	} {
		whole := strings.ReplaceAll(form, "M", s)
		if impl.TermSize(whole) < 0 {
			continue
		}
		kind, ok := impl.Infer(whole)
		checkText(t, "Infer of "+whole, kind, ok, want)
		if impl.InferTyped(whole) != (want != "") || impl.InferHas(whole, "o") != (want == "o") {
			t.Errorf("InferTyped or InferHas takes %q wrongly", short(whole))
		}
	}
}

// doubling returns a let in which each of a number of names is two of the one before it.
func doubling(names int, first string, form string, last string) string {
	s := "(let f0 " + first + " "
	for i := 1; i <= names; i++ {
		s += fmt.Sprintf("(let f%d %s ", i, strings.ReplaceAll(form, "F", fmt.Sprint("f", i-1)))
	}
	return s + strings.ReplaceAll(last, "F", fmt.Sprint("f", names)) + strings.Repeat(")", names+1)
}

// Types of parts have thousands of atoms and of variables, but none of them more than 20000.
func TestTypesOfPartsThatAreLarge(t *testing.T) {
	twice, five := "(lam x (app F (app F x)))", "(lam x (app F (app F (app F (app F (app F x))))))"
	for _, s := range []string{
		doubling(3, "(lam x x)", "(pair F F)", "F"), doubling(11, "(lam x x)", "(pair F F)", "F"), doubling(10, "(lam x (lam y y))", "(pair F F)", "F"),
		doubling(11, "(lam x (pair true x))", twice, "F"), doubling(5, "(lam x (pair true x))", five, "F"), "(lam y " + doubling(11, "y", "(pair F F)", "(pair true F)") + ")",
	} {
		checkLargeParts(t, s)
	}
	for s, want := range map[string]string{
		doubling(12, "(lam x x)", "(pair F F)", "true"): "o", doubling(12, "(lam x x)", "(pair F F)", around(12, "(fst ", "F", ")")): "(> a a)", doubling(12, "(lam x x)", "(pair F F)", "(if true true (app "+around(12, "(snd ", "F", ")")+" true))"): "o",
		doubling(12, "(lam x x)", "(pair F F)", "(app (lam p "+around(12, "(fst ", "p", ")")+") F)"): "(> a a)", doubling(13, "(lam x (pair true x))", twice, around(5, "(snd ", "(app F true)", ")")): "", doubling(4, "(lam x (pair true x))", twice, "(app F false)"): around(16, "(* o ", "o", ")"), doubling(4, "(lam x (pair true x))", twice, "F"): "(> a " + around(16, "(* o ", "a", ")") + ")",
		"(lam y " + doubling(13, "y", "(pair F F)", around(13, "(fst ", "F", ")")) + ")": "(> a a)", "(lam y " + doubling(13, "y", "(pair F F)", "(if "+around(13, "(fst ", "F", ")")+" true false)") + ")": "(> o o)", "(lam y " + doubling(13, "y", "(pair F F)", "(if true F (fst F))") + ")": "",
	} {
		kind, ok := impl.Infer(s)
		checkText(t, "Infer of "+s, kind, ok, want)
	}
}

// Nothing is told of these terms, but that all functions come to an end.
func TestTermsThatAreNotAsked(t *testing.T) {
	for _, s := range []string{
		doubling(40, "(lam x x)", "(pair F F)", "F"), doubling(57, "(lam x x)", "(pair F F)", "true"), doubling(56, "true", "(pair F F)", "F"), doubling(31, "(lam x (pair x x))", "(lam x (app F (app F x)))", "F"), doubling(6, "(lam x (pair true x))", "(lam x "+around(5, "(app F ", "x", ")")+")", around(6, "(app F ", "true", ")")),
	} {
		if !impl.TermValid(s) {
			t.Errorf("%q is no term", short(s))
		}
		for _, whole := range []string{s, "(fst " + s + ")"} {
			kind, ok := impl.Infer(whole)
			if ok != impl.InferTyped(whole) || ok != impl.InferHas(whole, kind) {
				t.Errorf("Infer, InferTyped and InferHas differ for %q", short(whole))
			}
			impl.InferUnfold(whole)
			impl.InferBoth(whole, "true")
			impl.InferApp("(lam x true)", whole)
		}
	}
}

// Terms that are not closed have no type, wherever the free name stands.
func TestTermsThatAreNotClosed(t *testing.T) {
	for _, s := range []string{"x", "o", "(lam x y)", "(app (lam x x) x)", "(pair true x)", "(fst (pair true x))", "(if true true x)", "(if x true true)", "(let x y true)", "(let x y x)", "(let x x x)", "(let x true y)", "(let x (lam x x) (app x y))", "(lam x (app (lam y y) y))", "(lam x1 x01)", "(pair (lam x x) x)", "(snd x)", "(let x (app x x) (lam x x))"} {
		names, _ := impl.TermFree(s)
		if len(names) == 0 {
			t.Errorf("the test takes %q wrongly", s)
		}
		checkNoType(t, s)
		unfolded, ok := impl.InferUnfold(s)
		checkText(t, "InferUnfold of "+s, unfolded, ok, unfoldText(read(s)))
		// What is bound around makes it closed.
		if whole := around(1, "(lam "+names[0]+" ", s, ")"); !impl.InferTyped(whole) && !slices.Contains([]string{"(let x (lam x x) (app x y))", "(let x (app x x) (lam x x))"}, s) {
			t.Errorf("%q has no type", whole)
		}
	}
}

// checkNoType checks that nothing is told of the types of a text.
func checkNoType(t *testing.T, s string) {
	t.Helper()
	kind, ok := impl.Infer(s)
	checkText(t, "Infer of "+s, kind, ok, "")
	if impl.InferTyped(s) || impl.InferHas(s, "o") || impl.InferHas(s, "a") || impl.InferHas(s, "(> a a)") || impl.InferHas(s, s) || impl.InferHas(s, "") {
		t.Errorf("InferTyped or InferHas takes %q", short(s))
	}
	for _, pair := range [][2]string{{s, "true"}, {"true", s}, {s, s}, {"(lam x x)", s}, {s, "(lam x x)"}, {"(lam x true)", s}} {
		both, ok := impl.InferBoth(pair[0], pair[1])
		checkText(t, "InferBoth of "+pair[0]+" and "+pair[1], both, ok, "")
		whole, ok := impl.InferApp(pair[0], pair[1])
		checkText(t, "InferApp of "+pair[0]+" and "+pair[1], whole, ok, "")
	}
}

func TestTypesOfTextsThatAreNoTerms(t *testing.T) {
	for _, s := range badTerms() {
		checkNoType(t, s)
		unfolded, ok := impl.InferUnfold(s)
		checkText(t, "InferUnfold of "+s, unfolded, ok, "")
	}
	// Texts that make a term together, but none alone.
	for _, pair := range [][2]string{{"true true) (pair", "true"}, {"true", "true) (pair true true"}, {"(lam x x) true) (fst", "true"}, {"true (pair true", "true)"}, {"", "true true"}, {"true true", ""}, {"(lam x", "x) true"}} {
		both, ok := impl.InferBoth(pair[0], pair[1])
		checkText(t, "InferBoth of "+pair[0]+" and "+pair[1], both, ok, "")
		whole, ok := impl.InferApp(pair[0], pair[1])
		checkText(t, "InferApp of "+pair[0]+" and "+pair[1], whole, ok, "")
	}
}

func TestTextsThatAreNoTypesOfTerms(t *testing.T) {
	for _, kind := range badTypes() {
		for _, s := range []string{"true", "(lam x x)", "(pair true true)", "(lam x (lam y x))", "x", "(lam x (app x x))"} {
			if impl.InferHas(s, kind) {
				t.Errorf("InferHas(%q, %q) holds", s, short(kind))
			}
		}
	}
}

func TestTypesThatTermsHaveByHand(t *testing.T) {
	// Behind the term are types that it has, and behind "not" others.
	for _, line := range []string{
		"true: o not a, (> a a), (* o o)", "(lam x x): (> a a), (> z z), (> o o), (> (* a b) (* a b)), (> (> o b) (> o b)) not (> a b), (> o a), (> a o), o, a, (* a a), (> (* a b) (* b a))", "(lam x true): (> a o), (> o o), (> (> a a) o) not (> a a), (> o a), o",
		"(lam x (lam y x)): (> a (> b a)), (> b (> a b)), (> a (> a a)), (> o (> (* a a) o)) not (> a (> b b)), (> a b)", "(let f (lam x x) (pair (app f true) f)): (* o (> a a)), (* o (> o o)), (* o (> (> o o) (> o o))) not (* a (> a a)), (* o (> o a))", "(lam f (pair (app f true) (app f false))): (> (> o a) (* a a)), (> (> o o) (* o o)) not (> (> a a) (* a a)), (> (> o a) (* a b))",
		"(lam x (lam y (if true x y))): (> a (> a a)), (> o (> o o)) not (> a (> b a))", "(lam x (app x x)): not o, a, (> a a), (> (> a a) a)", "(let x (lam y (app y y)) true): not o, a", "(fst (pair true (lam x (app x x)))): not o",
		lamRow(19, "true") + ": " + row(allLetters[:19]+"o") + ", " + chain(19, "o", "o") + " not " + chain(19, "a", "a") + ", " + chain(18, "a", "o"), lamRow(18, "true") + ": " + chain(18, "a", "o") + ", (> (> a b) " + chain(17, "a", "o") + ") not " + chain(19, "a", "o"), lamRow(20, "true") + ": not " + chain(19, "a", "o") + ", " + chain(20, "a", "o"),
	} {
		s, kinds, _ := strings.Cut(line, ": ")
		had, not, _ := strings.Cut(" "+kinds, " not ")
		for i, list := range []string{had, not} {
			for _, kind := range strings.Split(list, ", ") {
				kind = strings.TrimSpace(kind)
				if kind != "" && impl.InferHas(s, kind) != (i == 0) {
					t.Errorf("InferHas(%q, %q) is %v", short(s), kind, i != 0)
				}
			}
		}
	}
}

func TestPairsAndApplicationsByHand(t *testing.T) {
	// The last two texts are the results of InferBoth and of InferApp.
	for _, c := range [][4]string{
		{"true", "false", "(* o o)", ""}, {"(lam x x)", "true", "(* (> a a) o)", "o"}, {"(lam x x)", "(lam x x)", "(* (> a a) (> b b))", "(> a a)"}, {"true", "(lam x x)", "(* o (> a a))", ""}, {"(lam x (lam y x))", "true", "(* (> a (> b a)) o)", "(> a o)"}, {"(lam x (lam y y))", "(lam x x)", "(* (> a (> b b)) (> c c))", "(> a a)"},
		{"(lam p (fst p))", "(pair true (lam x x))", "(* (> (* a b) a) (* o (> c c)))", "o"}, {"(lam p (fst p))", "true", "(* (> (* a b) a) o)", ""}, {"(lam f (app f true))", "(lam x (pair x x))", "(* (> (> o a) a) (> b (* b b)))", "(* o o)"}, {"(lam f (lam x (app f (app f x))))", "(lam x (pair x x))", "(* (> (> a a) (> a a)) (> b (* b b)))", ""}, {"(lam f (lam x (app f (app f x))))", "(lam b (if b false true))", "(* (> (> a a) (> a a)) (> o o))", "(> o o)"},
		{"(app true true)", "true", "", ""}, {"true", "(app true true)", "", ""}, {"(lam x (app x x))", "(lam x x)", "", ""}, {"(lam x true)", "(lam x (app x x))", "", ""}, {"x", "true", "", ""}, {"(lam x x)", "x", "", ""}, {"(lam x y)", "true", "", ""}, {"(let f (lam x x) (app f f))", "(let f (lam x x) (app f f))", "(* (> a a) (> b b))", "(> a a)"},
		// Types of both that are small enough, and of the whole that is not, or the other way round.
		{lamRow(19, "true"), "true", "", row(allLetters[:18] + "o")}, {lamRow(18, "true"), "true", "(* " + row(allLetters[:18]+"o") + " o)", row(allLetters[:17] + "o")}, {lamRow(20, "true"), "true", "", ""}, {"(lam y true)", lamRow(20, "true"), "", ""}, {"(lam y true)", lamRow(19, "true"), "", "o"}, {"(lam x x)", lamRow(19, "true"), "", row(allLetters[:19] + "o")}, {"(lam x (pair true x))", lamRow(18, "true"), "", "(* o " + row(allLetters[:18]+"o") + ")"}, {"(lam x (pair true x))", lamRow(19, "true"), "", ""}, {"(lam x (pair x x))", lamRow(9, "x"), "", ""}, {"(lam x (pair x x))", lamRow(9, "true"), "(* (> a (* a a)) " + row("bcdefghijo") + ")", "(* " + row("abcdefghio") + " " + row("abcdefghio") + ")"}, {"(lam x (pair x x))", lamRow(10, "true"), "(* (> a (* a a)) " + row("bcdefghijko") + ")", ""},
	} {
		both, ok := impl.InferBoth(c[0], c[1])
		checkText(t, "InferBoth of "+c[0]+" and "+c[1], both, ok, c[2])
		whole, ok := impl.InferApp(c[0], c[1])
		checkText(t, "InferApp of "+c[0]+" and "+c[1], whole, ok, c[3])
	}
}

// The pair of two terms, and the one applied to the other, have one atom more than both together.
func TestPairsAndApplicationsOfManyAtoms(t *testing.T) {
	for n := 100; n <= 300; n++ {
		for total := 297; total <= 302; total++ {
			m := total - n
			if n%3 != 0 || m < 1 || m%3 != 1 {
				continue
			}
			a, b := "(lam z "+around((n-3)/3, "(if true true ", "z", ")")+")", around((m-1)/3, "(fst (pair ", "true", " true))")
			if impl.TermSize(a) != n || impl.TermSize(b) != m {
				t.Fatalf("the test has %d and %d atoms and not %d and %d", impl.TermSize(a), impl.TermSize(b), n, m)
			}
			wantBoth, wantApp := "", ""
			if n+m < impl.TermMax {
				wantBoth, wantApp = "(* (> o o) o)", "o"
			}
			both, ok := impl.InferBoth(a, b)
			checkText(t, fmt.Sprintf("InferBoth of %d and %d atoms", n, m), both, ok, wantBoth)
			whole, ok := impl.InferApp(a, b)
			checkText(t, fmt.Sprintf("InferApp of %d and %d atoms", n, m), whole, ok, wantApp)
		}
	}
}

// checkAsTold compares the types that a term has with what the document says of them, if the types of all parts are small.
func checkAsTold(t *testing.T, x oneTerm, kinds []oneType, had *int) {
	t.Helper()
	for _, kind := range kinds {
		want := plainHas(x, kind, nil, typesUpTo(5, "oa"))
		if impl.InferHas(x.String(), kind.String()) != want {
			t.Errorf("InferHas(%q, %q) is %v", x, kind, !want)
		}
		if want {
			*had++
		}
	}
}

func TestTypesOfSmallTermsAsTheyAreTold(t *testing.T) {
	had := 0
	for _, x := range smallClosed(7) {
		if x.asks() <= 2 {
			checkAsTold(t, x, typesUpTo(3, "oa"), &had)
		}
	}
	if had < 250 {
		t.Errorf("just %d types are had", had)
	}
	for _, s := range []string{
		"(let f (lam x x) (app f f))", "(let f (lam x x) (pair (app f true) f))", "(app (lam f (app f f)) (lam x x))", "(app (lam f (pair (app f true) f)) (lam x x))", "(lam y (let f (lam z y) (pair (app f true) (app f f))))", "(lam y (let f (lam z (if true y z)) (app f y)))", "(lam y (let x (app y true) x))",
		"(lam y (let x (if y true true) y))", "(let x (lam y (if y y true)) (pair true x))", "(let x (lam y (app y y)) true)", "(lam y (let x (lam z y) (if true x (lam z z))))", "(let f (lam x (lam y x)) (let g (app f true) (pair (app g true) g)))", "(lam x (let y x (lam z y)))", "(let x (let x (lam x x) (app x x)) x)",
	} {
		had = 0
		checkAsTold(t, read(s), typesUpTo(5, "oa"), &had)
		if (had == 0) != (kindText(t, read(s)) == "") {
			t.Errorf("of %q %d types are had", s, had)
		}
	}
}
