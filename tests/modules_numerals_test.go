package tests

import (
	"strings"
	"testing"

	"loop.example/parametric/impl"
)

func TestNumerals(t *testing.T) {
	checkNumeral(t, 0, "(lam x0 (lam x1 x1))")
	checkNumeral(t, 1, "(lam x0 (lam x1 (app x0 x1)))")
	checkNumeral(t, 2, "(lam x0 (lam x1 (app x0 (app x0 x1))))")
	checkNumeral(t, 5, "(lam x0 (lam x1 (app x0 (app x0 (app x0 (app x0 (app x0 x1)))))))")
	for n, want := range plainNumerals() {
		checkNumeral(t, n, want)
		if size := impl.TermSize(want); size != 5+2*n {
			t.Errorf("the numeral of %d has %d atoms", n, size)
		}
	}
	for _, n := range notNumerals() {
		checkNumeral(t, n, "")
	}
}

func TestNumeralsAreRead(t *testing.T) {
	for n, s := range plainNumerals() {
		checkRead(t, s, n)
		checkRead(t, numeral(n), n)
		// Other names, also the canonical ones exchanged, one name inside the other and names with more bytes.
		checkRead(t, "(lam x1 (lam x0 "+around(n, "(app x1 ", "x0", ")")+"))", n)
		checkRead(t, "(lam x (lam f "+around(n, "(app x ", "f", ")")+"))", n)
		checkRead(t, "(lam s999 (lam z000 "+around(n, "(app s999 ", "z000", ")")+"))", n)
		// A step away, or behind a name that is free and goes away.
		checkRead(t, "(app (lam x x) "+s+")", n)
		checkRead(t, "(fst (pair "+s+" y))", n)
		checkRead(t, "(if false x0 "+s+")", n)
		checkRead(t, "(let x0 x1 "+s+")", n)
		checkRead(t, "(app (lam y (lam f (lam x "+around(n, "(app f ", "x", ")")+"))) x0)", n)
	}
	for n := 31; n <= 147; n++ {
		checkRead(t, numeral(n), -1)
		checkRead(t, "(app (lam x x) "+numeral(min(n, 140))+")", -1)
	}
}

// Each term has the number that it is read as, or -1.
func TestNumeralsByHand(t *testing.T) {
	for _, c := range []struct {
		want  int
		texts []string
	}{
		{0, []string{
			"(lam f (lam x x))", "(lam f (lam f f))", "(lam x (lam x x))", "(lam x1 (lam x0 x0))", "(app (lam x (lam y (lam z z))) true)", "(app (lam x (lam y (lam z z))) x0)", "(lam f (app (lam y y) (lam x x)))", "(lam f (lam x (fst (pair x f))))", "(lam f (lam x (if true x f)))", "(lam f (lam x (app (lam y x) (app f x))))", "(let z (lam f (lam x x)) z)", "(snd (pair x1 (lam x0 (lam x1 x1))))",
		}},
		{1, []string{
			// The term of equal functions, too.
			"(lam x0 x0)", "(lam x x)", "(lam f f)", "(lam x1 x1)", "(app (lam x x) (lam x x))", "(app (lam f (lam x x)) true)", "(app (lam f (lam x x)) x0)", "(lam f (app (lam x x) f))", "(lam x (fst (pair x true)))", "(let i (lam x x) (app i i))", "(if true (lam x x) x)", "(app (lam n (app n n)) (lam x x))", "(app (lam n (lam f (app n f))) (lam x x))",
			"(lam f (lam x (app f x)))", "(lam x0 (lam x1 (app x0 x1)))", "(lam f (lam x (app (lam y (app f y)) x)))", "(lam f (lam x (app f (app (lam z z) x))))", "(lam f (app (lam y (lam x (app y x))) f))", "(lam f (lam x (app (app (lam y y) f) x)))", "(app (lam x (lam f (lam y (app f y)))) (lam x (app x x)))",
		}},
		{2, []string{"(lam f (lam x (app f (app f x))))", "(lam f (lam x (app (lam y (app f (app f y))) x)))", "(lam f (lam x (app f (if false x (app f x)))))", "(lam f (lam x (let y (app f x) (app f y))))", "(let t (lam f (lam x (app f (app f x)))) t)"}},
		{4, []string{"(let t (lam f (lam x (app f (app f x)))) (app t t))", "(app (lam t (app t t)) (lam f (lam x (app f (app f x)))))"}},
		{16, []string{"(let t (lam f (lam x (app f (app f x)))) (app t (app t t)))", "(let t (lam f (lam x (app f (app f x)))) (app (app t t) t))"}},
		{-1, []string{
			// Other names inside, the names exchanged, or another body.
			"(lam f (lam x f))", "(lam f (lam x (app x f)))", "(lam f (lam x (app x x)))", "(lam f (lam x (app f f)))", "(lam f (lam x (app f (app f f))))", "(lam f (lam x (app f (app x x))))", "(lam f (lam x (app x (app f x))))", "(lam f (lam x (app f (app x (app f x)))))", "(lam f (lam x (app f (app f (app x x)))))", "(lam f (lam x (app x (app x f))))", "(lam f (lam f (app f f)))", "(lam x1 (lam x0 (app x0 x1)))", "(lam f (lam x (app f (app x f))))",
			"(lam f (lam x y))", "(lam f (lam x (app f y)))", "(lam f (lam x (app y x)))", "(lam f (lam x (app f (app y x))))", "(lam f (lam x x0))", "(lam f (lam x x1))", "(lam f (lam x (app x0 x)))", "(lam f (lam x (app f x1)))", "(lam f (lam x (app x0 x1)))", "(lam x1 (lam x2 (app x0 x2)))", "(lam x1 (lam x2 (app x1 x0)))", "(app (lam y (lam f (lam x (app f y)))) z)", "(app (lam y (lam f (lam x (app y x)))) x0)", "(lam x x0)", "(lam x0 x1)", "(lam x y)",
			// An argument that is no name, or a function that is none.
			"(lam f (lam x true))", "(lam f (lam x (app f true)))", "(lam f (lam x (app f (lam y y))))", "(lam f (lam x (app f (pair x x))))", "(lam f (lam x (app f (fst x))))", "(lam f (lam x (app f (app f (snd x)))))", "(lam f (lam x (app f (if x x x))))", "(lam f (lam x (app (app f x) x)))", "(lam f (lam x (app (app f f) x)))", "(lam f (lam x (app f (app (app f x) x))))", "(lam f (lam x (app (fst f) x)))", "(lam f (lam x (pair f x)))", "(lam f (lam x (pair (app f x) (app f x))))", "(lam f (lam x (fst (app f x))))", "(lam f (lam x (fst x)))", "(lam f (lam x (if x x x)))", "(lam f (lam x (if (app f x) x x)))", "(lam f (lam x (app true x)))",
			// One name, or three of them.
			"(lam f (app f f))", "(lam f true)", "(lam f (fst f))", "(lam f (pair f f))", "(lam f (app f (app f f)))", "(lam f (lam x (lam y x)))", "(lam f (lam x (lam y y)))", "(lam f (lam x (lam y (app f x))))", "(lam f (lam x (lam y (app f y))))", "(lam f (lam x (lam y (app x y))))", "(lam f (pair (lam x x) (lam x x)))", "(lam f (app f (lam x x)))", "(lam f (app f (lam x (app f x))))", "(lam f (app (lam x (app f x)) f))", "(lam f (fst (lam x x)))",
			"true", "false", "x", "x0", "x1", "f", "(app f x)", "(app x0 x1)", "(pair (lam x x) (lam x x))", "(pair (lam f (lam x x)) (lam f (lam x x)))", "(fst (lam f (lam x x)))", "(app y (lam f (lam x x)))", "(app true (lam x x))", "(if x (lam x x) (lam x x))", "(app (lam f (app f f)) true)", "(app x x)",
			// No normal term.
			omegaTerm, "(pair (lam f (lam x x)) " + omegaTerm + ")", "(lam f (lam x (app f " + omegaTerm + ")))", "(lam f " + omegaTerm + ")", "(lam f (lam x (app " + omegaTerm + " x)))", "(app " + omegaTerm + " (lam x x))", "(app (lam x (app (app x x) x)) (lam x (app (app x x) x)))",
		}},
		// What has no normal term goes away.
		{3, []string{"(app (lam y " + numeral(3) + ") " + omegaTerm + ")", "(fst (pair " + numeral(3) + " " + omegaTerm + "))", "(let y " + omegaTerm + " " + numeral(3) + ")", "(if true " + numeral(3) + " " + omegaTerm + ")"}},
	} {
		for _, s := range c.texts {
			if n := plainNumber(read(s)); n != c.want {
				t.Fatalf("the test reads %s as %d", s, n)
			}
			checkRead(t, s, c.want)
		}
	}
}

func TestNoTermsAreRead(t *testing.T) {
	for _, s := range badTerms() {
		checkRead(t, s, -1)
	}
	for _, form := range []string{" N", "N ", "(N)", "N)", "(N", "NN", "N N", "(app N)", "(lam x N", "N\n", "(lam N)"} {
		checkRead(t, strings.ReplaceAll(form, "N", numeral(2)), -1)
	}
	checkRead(t, numeral(148), -1)
	checkRead(t, "(fst (pair "+numeral(2)+" "+rowTerm(300)+"))", -1)
}

// A term must come to its normal term within StepsMax steps.
func TestNumeralsThatAreManyStepsAway(t *testing.T) {
	power := "(app (app (app " + numeral(6) + " " + numeral(2) + ") " + notTerm + ") false)"
	for _, c := range []struct{ steps, want int }{{257, 3}, {258, 3}, {299, 3}, {300, 3}, {301, -1}, {302, -1}, {310, -1}} {
		s := "(if " + around(c.steps-257, "(fst (pair ", power, " true))") + " true " + numeral(3) + ")"
		if n := len(read(s).walk(1000)) - 1; n != c.steps {
			t.Fatalf("the test has a term of %d steps and not %d", n, c.steps)
		}
		checkRead(t, s, c.want)
	}
	// A step to a term that is too large.
	s := "(app (lam x (fst (pair " + numeral(1) + " (pair x x)))) " + rowTerm(149) + ")"
	checkRead(t, s, -1)
	checkRead(t, strings.ReplaceAll(s, rowTerm(149), rowTerm(147)), -1)
	checkRead(t, strings.ReplaceAll(s, rowTerm(149), rowTerm(145)), 1)
}

func TestLibrary(t *testing.T) {
	canonical := []nameText{
		{"zero", "(lam x0 (lam x1 x1))"}, {"one", "(lam x0 (lam x1 (app x0 x1)))"}, {"two", "(lam x0 (lam x1 (app x0 (app x0 x1))))"},
		{"succ", "(lam x0 (lam x1 (lam x2 (app x1 (app (app x0 x1) x2)))))"}, {"add", "(lam x0 (lam x1 (lam x2 (lam x3 (app (app x0 x2) (app (app x1 x2) x3))))))"},
		{"mul", "(lam x0 (lam x1 (lam x2 (app x0 (app x1 x2)))))"}, {"exp", "(lam x0 (lam x1 (app x1 x0)))"}, {"even", "(lam x0 (app (app x0 (lam x1 (if x1 false true))) true))"},
		{"not", "(lam x0 (if x0 false true))"}, {"and", "(lam x0 (lam x1 (if x0 x1 false)))"}, {"swap", "(lam x0 (pair (snd x0) (fst x0)))"}, {"compose", "(lam x0 (lam x1 (lam x2 (app x0 (app x1 x2)))))"},
	}
	for i, c := range libraryOfDocument() {
		got, ok := impl.Library(c.name)
		checkText(t, "Library of "+c.name, got, ok, canonical[i].text)
		if canonical[i].name != c.name || !impl.TermAlike(got, c.text) || got != read(c.text).canon().String() {
			t.Errorf("Library of %s is %q, and the document has %q", c.name, got, c.text)
		}
	}
}

// notNamesOfLibrary returns texts that are no names of terms.
func notNamesOfLibrary() []string {
	names := []string{
		"", " ", "\n", "\x00", "\xff", "three", "four", "id", "identity", "or", "pow", "plus", "times", "power", "odd", "pred", "pair", "fst", "lam", "app", "if", "let", "true", "false", "0", "1", "2", "x", "x0", "n", "o", "a", "zero one", "zeroone", "zero,one", "(zero)", "sucс", "ｚero", "(lam x0 x0)", "name", "lib", "lib succ",
	}
	for _, c := range libraryOfDocument() {
		names = append(names, " "+c.name, c.name+" ", c.name+"\n", c.name+"\x00", c.name+"s", "x"+c.name, c.name[1:], c.name[:len(c.name)-1], strings.ToUpper(c.name), strings.ToUpper(c.name[:1])+c.name[1:], c.name+c.name, c.text, "("+c.name+")", c.name+"0", strings.Join(strings.Split(c.name, ""), " "))
	}
	return append(names, strings.Repeat("succ", 100000))
}

func TestNoNamesOfTheLibrary(t *testing.T) {
	for _, name := range notNamesOfLibrary() {
		got, ok := impl.Library(name)
		checkText(t, "Library of "+name, got, ok, "")
	}
}

// calculated is what a calculation of numbers has, or -1 if it has no numeral.
func calculated(result int) int {
	if result > 30 {
		return -1
	}
	return result
}

func TestNumeralsAreCalculated(t *testing.T) {
	for m := 0; m <= 30; m++ {
		s, _ := impl.Numeral(m)
		checkRead(t, use(t, "succ", s), calculated(m+1))
		for n := 0; n <= 30; n++ {
			other, _ := impl.Numeral(n)
			checkRead(t, use(t, "add", s, other), calculated(m+n))
			if m*n > 60 {
				continue
			}
			product, want := use(t, "mul", s, other), calculated(m*n)
			if m >= 25 {
				// The numeral of n stands so often in a term on the way that this may be too large.
				want = plainNumber(read(product))
			}
			checkRead(t, product, want)
		}
		truth, ok := impl.NormalOf(use(t, "even", s))
		checkText(t, "NormalOf of even of "+s, truth, ok, []string{"true", "false"}[m%2])
	}
	for _, c := range [][3]int{{0, 0, 1}, {3, 0, 1}, {30, 0, 1}, {0, 1, 0}, {0, 5, 0}, {1, 9, 1}, {2, 1, 2}, {2, 3, 8}, {2, 4, 16}, {2, 5, -1}, {3, 2, 9}, {3, 3, 27}, {3, 4, -1}, {4, 2, 16}, {5, 2, 25}, {6, 2, -1}, {30, 1, 30}} {
		m, _ := impl.Numeral(c[0])
		n, _ := impl.Numeral(c[1])
		checkRead(t, use(t, "exp", m, n), c[2])
	}
	for _, c := range []nameText{
		{use(t, "not", "true"), "false"}, {use(t, "not", "false"), "true"}, {use(t, "and", "true", "true"), "true"}, {use(t, "and", "true", "false"), "false"}, {use(t, "and", "false", "true"), "false"}, {use(t, "and", "false", "false"), "false"},
		{use(t, "swap", "(pair true false)"), "(pair false true)"}, {use(t, "compose", use(t, "not"), use(t, "not"), "true"), "true"}, {use(t, "compose", "(lam x (pair x true))", use(t, "not"), "false"), "(pair true true)"},
	} {
		normal, ok := impl.NormalOf(c.name)
		checkText(t, "NormalOf of "+c.name, normal, ok, c.text)
	}
}

// nearNumerals returns terms that are numerals, or nearly, and such that come to them.
func nearNumerals(seed int) []oneTerm {
	d := dice(seed)
	all := []oneTerm{}
	for range 1500 {
		body := word([]string{"x", "x", "x", "f", "y", "true"}[d.below(6)])
		for range d.below(6) {
			front := word([]string{"f", "f", "f", "f", "f", "x", "x0"}[d.below(7)])
			body = made("app", front, body)
		}
		x := lam("f", lam([]string{"x", "x", "x", "f"}[d.below(4)], body))
		switch d.below(5) {
		case 0:
			x = made("app", read(succTerm), x)
		case 1:
			x = made("app", lam("y", x), word([]string{"z", "x0", "x1"}[d.below(3)]))
		case 2:
			x = made("app", made("app", read(plusTerm), x), read(numeral(d.below(30))))
		}
		all = append(all, x)
	}
	for range 400 {
		all = append(all, d.busy(5+d.below(12), nil))
	}
	all = append(all, smallClosed(6)...)
	return append(all, calculations()...)
}

func TestTermsAreReadAsNumbers(t *testing.T) {
	found, not := map[int]int{}, 0
	for _, x := range nearNumerals(90) {
		want := plainNumber(x)
		checkRead(t, x.String(), want)
		if want < 0 {
			not++
		} else {
			found[want]++
		}
	}
	checkCount(t, "the number is 0", found[0], 50)
	checkCount(t, "the number is 1", found[1], 50)
	checkCount(t, "the number is 2", found[2], 20)
	checkCount(t, "different numbers", len(found), 25)
	checkCount(t, "terms are no numerals", not, 1000)
}
