package tests

import (
	"fmt"
	"strings"
	"testing"
)

// ifTerm returns a term of truth values with the free name z and 1 atom more than 3 times a number. It has few bytes for its atoms.
func ifTerm(parts int) string {
	return around(parts, "(if z z ", "z", ")")
}

// ifForm returns a term of a form with ifTerm for M, bound in a lam.
func ifForm(form string, parts int) string {
	return "(lam z " + strings.ReplaceAll(form, "M", ifTerm(parts)) + ")"
}

// canonText returns the canonical text of a term.
func canonText(s string) string {
	return read(s).canon().String()
}

// An applied term may have TermMax atoms, and what has more stays as it was.
func TestApplicationsOfManyAtoms(t *testing.T) {
	s := ifForm("(let x M (pair x x))", 48)
	behind := canonText(ifForm("(pair M M)", 48))
	six, seven := "(fst (pair true (lam x x)))", "(fst (pair true (lam x (fst x))))"
	if n := read(behind).size(); n != 293 {
		t.Fatalf("the test has a term of %d atoms", n)
	}
	whole := canonText("(app " + behind + " " + six + ")")
	checkScript(t, "term "+s+";unfold;app "+seven+";show;app "+six+";show", "ok;ok;no;"+behind+";ok;"+whole+";atoms 300")
	// What is put for the name makes it too large in a step.
	checkScript(t, "term "+s+";unfold;app "+six+";step;normal;app true;type", "ok;ok;ok;no;no;no;(* o o);atoms 300")
	checkScript(t, "term "+s+";unfold;app true;step;type;normal;show", "ok;ok;ok;ok;(* o o);ok;(pair true true);atoms 3")
	checkScript(t, "term "+s+";app true;unfold;step;step;step", "ok;ok;ok;ok;ok;ok;atoms 3")
}

// A step, and unfolding, may lead to a term of TermMax atoms.
func TestStepsToManyAtoms(t *testing.T) {
	for _, c := range []struct {
		form, behind string
		size         int // of what is behind
	}{
		{"(fst (pair x x))", "(fst (pair M M))", 300}, {"(pair true (pair x x))", "(pair true (pair M M))", 301}, {"(pair x (pair x x))", "(pair M (pair M M))", 448}, {"(pair x true)", "(pair M true)", 152},
	} {
		behind := ifForm(c.behind, 49)
		if n := read(behind).size(); n != c.size {
			t.Fatalf("the test has a term of %d atoms", n)
		}
		// A redex of its own, so that nothing else is a step.
		s := ifForm("(app (lam x "+c.form+") M)", 49)
		u := ifForm("(let x M "+c.form+")", 49)
		if c.size > 300 {
			checkScript(t, "term "+s+";step;show;normal;unfold", fmt.Sprintf("ok;no;%s;no;ok;atoms %d", s, read(s).size()))
			checkScript(t, "term "+u+";step;unfold;normal;show", fmt.Sprintf("ok;no;no;no;%s;atoms %d", u, read(u).size()))
			checkScript(t, "term "+u+";mean 2;numeral;unfold;app true", fmt.Sprintf("ok;no;no;no;ok;atoms %d", read(u).size()+2))
			continue
		}
		checkScript(t, "term "+s+";step;show", fmt.Sprintf("ok;ok;%s;atoms %d", canonText(behind), c.size))
		checkScript(t, "term "+u+";step;show", fmt.Sprintf("ok;ok;%s;atoms %d", canonText(behind), c.size))
		checkScript(t, "term "+u+";unfold;show", fmt.Sprintf("ok;ok;%s;atoms %d", canonText(behind), c.size))
	}
	s, u := ifForm("(fst (pair M M))", 24), ifForm("(let x M (fst (pair x x)))", 49)
	checkScript(t, "term "+s+";mean 2;step;mean 1;type", "ok;2;ok;2;(> o o);atoms 75")
	checkScript(t, "term "+u+";mean 2;unfold;mean 1;type", "ok;2;ok;2;(> o o);atoms 300")
}

// A term comes to its normal term within StepsMax steps, or not at all.
func TestNormalTermsThatAreManyStepsAway(t *testing.T) {
	power := "(app (app (app " + numeral(6) + " " + numeral(2) + ") " + notTerm + ") true)"
	for _, c := range []struct{ more, steps int }{{0, 256}, {43, 299}, {44, 300}, {45, 301}} {
		s := "(lam z " + around(c.more, "(let y z ", power, ")") + ")"
		walk := read(s).walk(1000)
		if len(walk)-1 != c.steps {
			t.Fatalf("the test has a term of %d steps and not %d", len(walk)-1, c.steps)
		}
		if c.steps <= 300 {
			checkScript(t, "term "+s+";normal;show", fmt.Sprintf("ok;ok;%s;atoms %d", walk[c.steps], walk[c.steps].size()))
			continue
		}
		checkScript(t, "term "+s+";normal;show;step;normal;show", fmt.Sprintf("ok;no;%s;ok;ok;%s;atoms %d", s, walk[c.steps], walk[c.steps].size()))
	}
}

// A term is read as a number within as many steps.
func TestNumeralsInScriptsThatAreManyStepsAway(t *testing.T) {
	power := "(app (app (app " + numeral(6) + " " + numeral(2) + ") " + notTerm + ") true)"
	for _, c := range []struct {
		more, steps int
		want        string
	}{{42, 299, "3"}, {43, 300, "3"}, {44, 301, "no"}} {
		s := around(c.more-1, "(let y y ", "(if "+power+" "+numeral(3)+" "+numeral(1)+")", ")")
		s = "(let y true " + s + ")"
		if n := len(read(s).walk(1000)) - 1; n != c.steps {
			t.Fatalf("the test has a term of %d steps and not %d", n, c.steps)
		}
		checkScript(t, "term "+s+";numeral;step;numeral", fmt.Sprintf("ok;%s;ok;3;atoms %d", c.want, read(s).size()-3))
	}
}

// A term is taken, and applied, if its principal type has at most TypeMax atoms.
func TestTypesOfManyAtoms(t *testing.T) {
	pairs := func(parts int) string { return around(parts, "(* o ", "o", ")") }
	checkScript(t, "term "+rowTerm(39)+";type;has "+pairs(19), "ok;"+pairs(19)+";yes;atoms 39")
	checkScript(t, "term "+rowTerm(41)+";show", "no;(lam x0 x0);atoms 3")
	checkScript(t, "app "+rowTerm(39)+";type;app "+rowTerm(39), "ok;"+pairs(19)+";no;atoms 43")
	checkScript(t, "app "+rowTerm(41)+";show", "no;(lam x0 x0);atoms 3")
	// It does not help that the whole has a small one.
	checkScript(t, "term (lam x true);app "+rowTerm(41)+";show;app "+rowTerm(39)+";type", "ok;no;(lam x true);ok;o;atoms 43")
	// Both have types, and the whole has a larger one.
	checkScript(t, "term (lam x (pair x x));app "+rowTerm(21)+";show;app "+rowTerm(19)+";type", "ok;no;(lam x (pair x x));ok;(* "+pairs(9)+" "+pairs(9)+");atoms 25")
	// The type itself has no more.
	checkScript(t, "term (lam x (pair x "+rowTerm(35)+"));type;app true;type;has "+pairs(18), "ok;(> a (* a "+pairs(17)+"));ok;"+pairs(18)+";yes;atoms 41")
	checkScript(t, "term (lam x (pair x "+rowTerm(37)+"));type", "no;(> a a);atoms 3")
}

// What a term means, and how many elements are parametric, is told if the counts are known.
func TestCountsOfScripts(t *testing.T) {
	for _, c := range [][2]string{
		// The type has a count, but a part has none.
		{"term (fst (pair true (lam f (lam x (lam y (app (app f x) y))))));type;mean 2;count 2;step;mean 2;count 2", "ok;o;no;2;ok;1;2;atoms 1"}, {"term (app (lam f true) (lam f (lam x (lam y (app (app f x) y)))));mean 2;normal;mean 2", "ok;no;ok;1;atoms 1"},
		// More than 300 elements, but not too many for a meaning; and more than these.
		{"term (lam f (lam x (if (app f (if x true false)) true false)));type;mean 3;count 1;count 3", "ok;(> (> o o) (> o o));228;256;256;atoms 13"}, {"term (pair (lam f (lam x (if (app f (if x true false)) true false))) true);mean 3;count 1;count 3", "ok;457;no;no;atoms 15"}, {"term (lam f (lam x (lam y (if (app (app f x) y) true false))));type;mean 1;count 1", "ok;(> (> a (> b o)) (> a (> b o)));2;no;atoms 14"},
		// Less than some of them for larger sizes.
		{"term (lam f (lam x (if (app f (if x true false)) true false)));count 2;app (lam y (if y false true));count 2;mean 0", "ok;256;ok;4;1;atoms 20"}, {"term (lam f (lam x (if (app f x) true false)));type;count 1;count 2;count 3;mean 1;mean 2;mean 3", "ok;(> (> a o) (> a o));4;4;no;2;228;no;atoms 10"}, {"term (lam f (lam x (app f (app f x))));mean 2;mean 3;count 2;count 3", "ok;232;no;3;no;atoms 9"}, {"term (lam p (lam f (app f p)));type;mean 1;mean 2;mean 3;count 1", "ok;(> a (> (> a b) b));0;202;no;no;atoms 7"}, {"term (lam f (pair (app f true) (app f false)));type;mean 1;mean 2;mean 3;mean 4;count 2", "ok;(> (> o a) (* a a));0;228;no;no;4;atoms 9"},
	} {
		checkScriptByHand(t, c[0], c[1])
	}
}

// A term is applied if it is a function of what the other one has as its type, or may be one.
func TestApplications(t *testing.T) {
	for _, c := range []struct {
		s, by string
		kind  string // of the whole, "" if it has none
	}{
		{"(lam y y)", "true", "o"}, {"(lam y y)", "(lam y y)", "(> a a)"}, {"(lam b (if b false true))", "true", "o"}, {"(lam b (if b false true))", "(lam x x)", ""}, {"(lam b (if b false true))", "(pair true true)", ""}, {"(lam p (fst p))", "(pair true (lam x x))", "o"}, {"(lam p (fst p))", "true", ""}, {"(lam p (fst p))", "(lam x x)", ""}, {"(lam f (app f true))", "(lam x x)", "o"}, {"(lam f (app f true))", "(lam p (fst p))", ""}, {"(lam f (app f true))", "true", ""}, {"(lam x (lam y x))", "true", "(> a o)"}, {"(lam x (lam y x))", "(lam x x)", "(> a (> b b))"},
		{"true", "true", ""}, {"false", "(lam x x)", ""}, {"(pair (lam x x) true)", "true", ""}, {"(fst (pair (lam x x) true))", "true", "o"}, {"(let i (lam x x) (app i i))", "(let i (lam x x) (app i i))", "(> a a)"}, {"(let i (lam x x) (lam y (app (app i i) y)))", "false", "o"}, {"(if true (lam x x) (lam x (if x true false)))", "true", "o"}, {"(if true (lam x x) (lam x (if x true false)))", "(lam x x)", ""},
		// An argument of a lam has one type alone, other than a name of let.
		{"(lam f (pair (app f true) f))", "(lam x x)", "(* o (> o o))"}, {"(lam f (pair (app f true) (app f (lam x x))))", "(lam x x)", "untyped"}, {numeral(2), numeral(2), "(> (> a a) (> a a))"}, {numeral(2), notTerm, "(> o o)"}, {numeral(2), "true", ""}, {numeral(2), "(lam x (pair x x))", ""}, {succTerm, numeral(2), "(> (> a a) (> a a))"}, {plusTerm, "true", ""},
	} {
		x := read(c.s)
		whole := made("app", x, read(c.by)).canon()
		switch c.kind {
		case "untyped":
			checkScript(t, "term "+c.s+";app "+c.by, "no;ok;atoms 7")
		case "":
			checkScript(t, "term "+c.s+";app "+c.by+";show", fmt.Sprintf("ok;no;%s;atoms %d", c.s, x.size()))
		default:
			checkScript(t, "term "+c.s+";app "+c.by+";type;show", fmt.Sprintf("ok;ok;%s;%s;atoms %d", c.kind, whole, whole.size()))
		}
	}
}
