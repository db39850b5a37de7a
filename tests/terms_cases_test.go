package tests

import (
	"fmt"
	"slices"
	"strings"
	"testing"

	"loop.example/parametric/impl"
)

func TestConstantsOfTerms(t *testing.T) {
	if impl.TermMax != 300 {
		t.Errorf("TermMax is %d", impl.TermMax)
	}
}

// checkTerm compares everything that is told of one term with what its tree tells.
func checkTerm(t *testing.T, x oneTerm) {
	t.Helper()
	s := x.String()
	if !impl.TermValid(s) || impl.TermHead(s) != x.kind() || impl.TermSize(s) != x.size() {
		t.Errorf("%q: TermValid returns %v, TermHead %q and TermSize %d", short(s), impl.TermValid(s), impl.TermHead(s), impl.TermSize(s))
	}
	kids := []string{}
	for _, kid := range x.kids {
		kids = append(kids, kid.String())
	}
	if got, ok := impl.TermKids(s); !ok || !slices.Equal(got, kids) {
		t.Errorf("TermKids(%q) returns %q, %v", short(s), got, ok)
	}
	if got, ok := impl.TermFree(s); !ok || !slices.Equal(got, x.freeOnce()) {
		t.Errorf("TermFree(%q) returns %q, %v and not %q", short(s), got, ok, x.freeOnce())
	}
	canon, ok := impl.TermCanon(s)
	checkText(t, "TermCanon of "+s, canon, ok, x.canon().String())
}

func TestSmallTerms(t *testing.T) {
	for _, x := range smallTerms() {
		checkTerm(t, x)
	}
}

func TestLargerTerms(t *testing.T) {
	for _, x := range largerTerms(21) {
		checkTerm(t, x)
	}
}

func TestHeadsAndPartsByHand(t *testing.T) {
	// Behind the text are the head, the number of atoms and the parts.
	cases := [][]string{
		{"x", "name", "1"}, {"o", "name", "1"}, {"z999", "name", "1"}, {"x00", "name", "1"}, {"true", "truth", "1"}, {"false", "truth", "1"},
		{"(lam x y)", "lam", "3", "y"}, {"(lam x (app x x))", "lam", "5", "(app x x)"}, {"(app f x)", "app", "3", "f", "x"},
		{"(pair true (fst p))", "pair", "4", "true", "(fst p)"}, {"(fst (pair x y))", "fst", "4", "(pair x y)"}, {"(snd x)", "snd", "2", "x"},
		{"(if b (lam x x) y)", "if", "6", "b", "(lam x x)", "y"}, {"(let x (lam x x) (app x x))", "let", "8", "(lam x x)", "(app x x)"},
		{"(lam x (lam x x))", "lam", "5", "(lam x x)"}, {"(let x x x)", "let", "4", "x", "x"}, {"(lam x (let x x (lam x x)))", "lam", "8", "(let x x (lam x x))"},
		{"(let x (lam y (lam y x)) (let y x (app x y)))", "let", "13", "(lam y (lam y x))", "(let y x (app x y))"},
	}
	for _, c := range cases {
		kids, ok := impl.TermKids(c[0])
		if !ok || !slices.Equal(kids, c[3:]) || impl.TermHead(c[0]) != c[1] || fmt.Sprint(impl.TermSize(c[0])) != c[2] || !impl.TermValid(c[0]) {
			t.Errorf("%q: TermKids returns %q, %v, TermHead %q and TermSize %d", c[0], kids, ok, impl.TermHead(c[0]), impl.TermSize(c[0]))
		}
	}
}

func TestNames(t *testing.T) {
	good := []string{"a", "o", "z", "x0", "x9", "x00", "o1", "x10", "a999", "x000", "z012"}
	for _, name := range good {
		if !impl.TermValid(name) || !impl.TermValid("(lam "+name+" x)") || !impl.TermValid("(let "+name+" x y)") || impl.TermUses(name, name) != 1 {
			t.Errorf("%q is not taken as a name", name)
		}
	}
	for _, name := range badNames() {
		if impl.TermValid("(lam "+name+" x)") || impl.TermValid("(let "+name+" x y)") {
			t.Errorf("%q is taken as a name that is bound", short(name))
		}
		if n := impl.TermUses("x", name); n != -1 {
			t.Errorf("TermUses of %q is %d", short(name), n)
		}
		for _, s := range []string{"x", "true", "(lam x y)"} {
			result, ok := impl.TermPut(s, name, "true")
			checkText(t, "TermPut for "+name, result, ok, "")
		}
	}
}

func TestAllNamesOfTwoBytes(t *testing.T) {
	for a := range 256 {
		small := a >= 'a' && a <= 'z'
		if s := string([]byte{byte(a)}); impl.TermValid(s) != small || (impl.TermUses("x", s) >= 0) != small {
			t.Errorf("%q is taken wrongly", s)
		}
		for b := range 256 {
			s := string([]byte{byte(a), byte(b)})
			if want := small && b >= '0' && b <= '9'; impl.TermValid(s) != want || (impl.TermUses("x", s) >= 0) != want || impl.TermValid("(lam "+s+" x)") != want {
				t.Errorf("%q is taken wrongly", s)
			}
		}
	}
}

// Each text that comes of a term by taking away, adding or changing one byte is a term just if its form is one.
func TestTextsNearTerms(t *testing.T) {
	for _, s := range []string{"x", "true", "false", "x12", "(lam x x1)", "(app f x)", "(pair x y)", "(fst x)", "(snd x)", "(if x y z)", "(let x y x)", "(lam x (let y1 (fst x) (if true y1 (app x x))))"} {
		for i := range len(s) + 1 {
			for _, c := range []string{"", " ", "(", ")", "x", "0", "e", "f", "t", "A", "\n", "-"} {
				for _, near := range []string{s[:i] + c + s[i:], s[:i] + c + s[min(i+1, len(s)):]} {
					want := formIsTerm(near)
					if impl.TermValid(near) != want || (impl.TermSize(near) > 0) != want {
						t.Errorf("TermValid(%q) is %v", near, !want)
					}
				}
			}
		}
	}
}

func TestTextsThatAreNoTerms(t *testing.T) {
	for _, s := range badTerms() {
		if formIsTerm(s) {
			t.Errorf("the test takes %q wrongly", short(s))
		}
		if impl.TermValid(s) || impl.TermSize(s) != -1 || impl.TermHead(s) != "" {
			t.Errorf("%q is taken as a term of %d atoms with the head %q", short(s), impl.TermSize(s), impl.TermHead(s))
		}
		if kids, ok := impl.TermKids(s); ok || len(kids) != 0 {
			t.Errorf("TermKids(%q) returns %q, %v", short(s), kids, ok)
		}
		if names, ok := impl.TermFree(s); ok || len(names) != 0 {
			t.Errorf("TermFree(%q) returns %q, %v", short(s), names, ok)
		}
		canon, ok := impl.TermCanon(s)
		checkText(t, "TermCanon of "+s, canon, ok, "")
		if impl.TermAlike(s, s) || impl.TermAlike(s, "x") || impl.TermAlike("x", s) {
			t.Errorf("TermAlike takes %q", short(s))
		}
		if n := impl.TermUses(s, "x"); n != -1 {
			t.Errorf("TermUses of %q is %d", short(s), n)
		}
		for _, c := range [][3]string{{s, "x", "true"}, {"x", "x", s}, {"y", "x", s}, {"(lam x x)", "x", s}, {s, "x", s}} {
			result, ok := impl.TermPut(c[0], c[1], c[2])
			checkText(t, "TermPut with "+s, result, ok, "")
		}
	}
	for i, want := range []int{impl.TextMax, impl.TextMax + 1, impl.TextMax - 1} {
		if got := len(longTexts()[i]); got != want {
			t.Errorf("the test has a text of %d bytes and not %d", got, want)
		}
	}
}

func TestTermsOfTermMaxAtoms(t *testing.T) {
	for _, front := range []string{"(fst ", "(snd "} {
		for n := 298; n <= 302; n++ {
			checkLargest(t, around(n-1, front, "x", ")"), n)
			checkLargest(t, around(n-3, front, "(lam x x)", ")"), n)
			checkLargest(t, around(n-4, front, "(if x true y)", ")"), n)
			checkLargest(t, around(n-4, front, "(let x y x)", ")"), n)
		}
	}
	for n := 147; n <= 152; n++ {
		checkLargest(t, around(n, "(lam x ", "x", ")"), 2*n+1)
		checkLargest(t, around(n, "(lam x1 ", "(fst y)", ")"), 2*n+2)
		checkLargest(t, around(n, "(app x ", "x", ")"), 2*n+1)
		checkLargest(t, around(n, "(pair ", "x", " false)"), 2*n+1)
		checkLargest(t, around(n, "(pair false ", "(fst y)", ")"), 2*n+2)
	}
	for n := 97; n <= 102; n++ {
		checkLargest(t, around(n, "(let x y ", "x", ")"), 3*n+1)
		checkLargest(t, around(n, "(let x ", "(snd x)", " y)"), 3*n+2)
		checkLargest(t, around(n, "(if x y ", "(lam x x)", ")"), 3*n+3)
	}
}

func checkLargest(t *testing.T, s string, atoms int) {
	t.Helper()
	want := atoms
	if atoms > impl.TermMax {
		want = -1
	}
	_, kids := impl.TermKids(s)
	_, free := impl.TermFree(s)
	canon, ok := impl.TermCanon(s)
	if impl.TermSize(s) != want || impl.TermValid(s) != (want > 0) || kids != (want > 0) || free != (want > 0) || ok != (want > 0) || impl.TermSize(canon) != want {
		t.Errorf("a term of %d atoms is taken as one of %d: %q", atoms, impl.TermSize(s), short(s))
	}
}

func TestFreeNamesByHand(t *testing.T) {
	cases := map[string]string{
		"x": "x", "true": "", "(lam x x)": "", "(lam x y)": "y", "(app f (lam x (pair x y)))": "f y", "(pair y (pair x y))": "y x",
		"(let x x x)": "x", "(let x y x)": "y", "(let x (app x y) (app x z))": "x y z", "(let x true y)": "y", "(let x (lam x x) x)": "", "(let x z (let x x x))": "z",
		"(app x (lam x x))": "x", "(app (lam x x) x)": "x", "(lam x (app (lam x x) x))": "", "(lam x (lam y (app z (app y x))))": "z",
		"(if c b a)": "c b a", "(if (fst b) (snd a) b)": "b a", "(lam a (if c b a))": "c b", "(pair (let x y x) x)": "y x", "(let x (let x a x) (lam a (app x a)))": "a",
		"(app x0 x00)": "x0 x00", "(lam x0 (app x0 x00))": "x00", "(lam x (let y x (lam x y)))": "",
	}
	for s, want := range cases {
		if got, ok := impl.TermFree(s); !ok || strings.Join(got, " ") != want {
			t.Errorf("TermFree(%q) returns %q, %v", s, got, ok)
		}
	}
}

func TestUsesByHand(t *testing.T) {
	cases := []struct {
		s, name string
		want    int
	}{
		{"x", "x", 1}, {"x", "y", 0}, {"true", "x", 0}, {"(app x x)", "x", 2}, {"(lam x x)", "x", 0}, {"(lam y (app x y))", "x", 1}, {"(app x (lam x x))", "x", 1},
		{"(let x x x)", "x", 1}, {"(let x (app x x) x)", "x", 2}, {"(let y x x)", "x", 2}, {"(let y x y)", "y", 0}, {"(if x (pair x y) (fst x))", "x", 3},
		{"(lam x (app x x))", "x", 0}, {"(let x (lam x x) x)", "x", 0}, {"(pair x0 x00)", "x0", 1}, {"(pair x0 x00)", "x00", 1}, {"(pair x0 x00)", "x", 0}, {"x", "x999", 0},
		{"(app x", "x", -1}, {"", "x", -1}, {"x", "", -1}, {"x", "xx", -1}, {"true", "true", -1}, {"(lam x x)", "lam", -1}, {"(lam x x)", "false", -1}, {"(x)", "(x)", -1},
		{around(149, "(app x ", "x", ")"), "x", 150},
	}
	for _, c := range cases {
		if n := impl.TermUses(c.s, c.name); n != c.want {
			t.Errorf("TermUses(%q, %q) is %d and not %d", short(c.s), c.name, n, c.want)
		}
	}
}

func TestCanonicalTermsByHand(t *testing.T) {
	cases := map[string]string{
		"x": "x", "x0": "x0", "true": "true", "(lam x x)": "(lam x0 x0)", "(lam x y)": "(lam x0 y)", "(lam y (lam x (app y x)))": "(lam x0 (lam x1 (app x0 x1)))",
		"(let a true (lam b a))": "(let x0 true (lam x1 x0))",
		// Each lam and let has a name of its own, whether they stand in each other or not, and whether the name is used or not.
		"(pair (lam x x) (lam x x))": "(pair (lam x0 x0) (lam x1 x1))", "(lam x (lam x x))": "(lam x0 (lam x1 x1))", "(lam x (app (lam x x) x))": "(lam x0 (app (lam x1 x1) x0))",
		"(lam x (lam y true))": "(lam x0 (lam x1 true))",
		// The name of let stands ahead of what is bound in its first part, in which it is not bound itself.
		"(let a (lam b b) (lam c a))": "(let x0 (lam x1 x1) (lam x2 x0))", "(let x x x)": "(let x0 x x0)", "(let x (let x x x) x)": "(let x0 (let x1 x x1) x0)", "(let x x (let x x x))": "(let x0 x (let x1 x0 x1))",
		"(lam x (let x x x))": "(lam x0 (let x1 x0 x1))", "(let y (lam x y) y)": "(let x0 (lam x1 y) x0)",
		// Free names are left out, wherever in the term they stand.
		"(lam x x0)": "(lam x1 x0)", "(lam x0 x0)": "(lam x0 x0)", "(lam x (app x x0))": "(lam x1 (app x1 x0))", "(lam x (lam y (app x1 (app x y))))": "(lam x0 (lam x2 (app x1 (app x0 x2))))",
		"(app (lam x x) x0)": "(app (lam x1 x1) x0)", "(app (lam x0 x0) x0)": "(app (lam x1 x1) x0)", "(app (lam x1 x1) (app x0 x2))": "(app (lam x1 x1) (app x0 x2))", "(let x0 x0 x0)": "(let x1 x0 x1)",
		"(let x x1 (lam y (lam z x0)))": "(let x2 x1 (lam x3 (lam x4 x0)))", "(lam x x00)": "(lam x0 x00)", "(lam x (app x01 x10))": "(lam x0 (app x01 x10))", "(lam x1 (lam x0 (app x0 x1)))": "(lam x0 (lam x1 (app x1 x0)))",
		"(lam y (app x0 (lam x0 (app x0 y))))": "(lam x1 (app x0 (lam x2 (app x2 x1))))", "(if x3 (lam a (lam b (lam c (lam d d)))) x1)": "(if x3 (lam x0 (lam x2 (lam x4 (lam x5 x5)))) x1)",
	}
	for s, want := range cases {
		canon, ok := impl.TermCanon(s)
		checkText(t, "TermCanon of "+s, canon, ok, want)
	}
}

func TestCanonicalNamesOfManyDigits(t *testing.T) {
	s, want := around(149, "(lam x ", "x", ")"), ""
	for i := range 149 {
		want += fmt.Sprintf("(lam x%d ", i)
	}
	want += "x148" + strings.Repeat(")", 149)
	canon, ok := impl.TermCanon(s)
	checkText(t, "TermCanon of 149 lam", canon, ok, want)
	// 75 names that are free are left out of the 75 that are bound.
	inner, want := "x0", ""
	for i := 1; i < 75; i++ {
		inner = fmt.Sprintf("(app %s x%d)", inner, i)
	}
	for i := range 75 {
		want += fmt.Sprintf("(lam x%d ", 75+i)
	}
	canon, ok = impl.TermCanon(around(75, "(lam y ", inner, ")"))
	checkText(t, "TermCanon with 75 free names", canon, ok, want+inner+strings.Repeat(")", 75))
}

func TestAlikeTermsByHand(t *testing.T) {
	for _, c := range [][2]string{
		{"x", "x"}, {"true", "true"}, {"(lam x x)", "(lam y y)"}, {"(lam x y)", "(lam z y)"}, {"(lam x (lam y x))", "(lam y (lam x y))"}, {"(lam x (lam x x))", "(lam x (lam y y))"},
		{"(let x x x)", "(let y x y)"}, {"(let x true (lam y x))", "(let y true (lam x y))"}, {"(pair (lam x x) (lam y y))", "(pair (lam y y) (lam x x))"}, {"(app x (lam x x))", "(app x (lam z z))"},
	} {
		if !impl.TermAlike(c[0], c[1]) || !impl.TermAlike(c[1], c[0]) {
			t.Errorf("%q and %q are not alike", c[0], c[1])
		}
	}
	for _, c := range [][2]string{
		{"x", "y"}, {"true", "false"}, {"true", "x"}, {"(lam x y)", "(lam x x)"}, {"(lam x y)", "(lam y y)"}, {"(lam x x)", "(lam x true)"}, {"(lam x (lam y x))", "(lam x (lam y y))"}, {"(lam x (lam x x))", "(lam x (lam y x))"},
		{"(let x x x)", "(let x y x)"}, {"(let x x x)", "(let y y x)"}, {"(let x y x)", "(let x y y)"}, {"(let x true y)", "(let y true y)"}, {"(fst x)", "(snd x)"}, {"(app x y)", "(pair x y)"}, {"(app x y)", "(app y x)"},
		{"(lam x (fst x))", "(lam x (snd x))"}, {"(lam x x)", "(let x x x)"}, {"x0", "x00"}, {"(fst x)", "x"}, {"(if x y z)", "(if x z y)"}, {"(let x (lam x x) x)", "(let x (lam y x) x)"},
		{"(lam x (lam y (app x y)))", "(lam x (lam y (app y x)))"}, {"(lam x x0)", "(lam x0 x0)"}, {"(lam x0 (app x0 x1))", "(lam x1 (app x1 x0))"},
	} {
		if impl.TermAlike(c[0], c[1]) || impl.TermAlike(c[1], c[0]) {
			t.Errorf("%q and %q are alike", c[0], c[1])
		}
	}
}

func TestPutsByHand(t *testing.T) {
	cases := []struct{ s, name, by, want string }{
		{"x", "x", "true", "true"}, {"x", "x", "x", "x"}, {"x", "y", "true", "x"}, {"(app x x)", "x", "(lam y y)", "(app (lam x0 x0) (lam x1 x1))"},
		// A name that does not stand free: what is left is the canonical term.
		{"(lam y y)", "x", "z", "(lam x0 x0)"}, {"(lam x x)", "x", "true", "(lam x0 x0)"}, {"(let x true x)", "x", "z", "(let x0 true x0)"}, {"(lam y x0)", "x", "z", "(lam x1 x0)"}, {"true", "x", "(lam y y)", "true"},
		// Names that are bound are not put; in let just those of the second part.
		{"(let x x x)", "x", "y", "(let x0 y x0)"}, {"(let x (app x z) (app x z))", "x", "true", "(let x0 (app true z) (app x0 z))"}, {"(app x (lam x x))", "x", "y", "(app y (lam x0 x0))"}, {"(lam x (lam y (app x y)))", "y", "z", "(lam x0 (lam x1 (app x0 x1)))"},
		// Names that would be captured.
		{"(lam x (app x y))", "y", "x", "(lam x0 (app x0 x))"}, {"(lam x y)", "y", "(app x x)", "(lam x0 (app x x))"}, {"(lam x (lam z (app y (app x z))))", "y", "(pair x z)", "(lam x0 (lam x1 (app (pair x z) (app x0 x1))))"},
		{"(let x true (app x y))", "y", "x", "(let x0 true (app x0 x))"}, {"(let x y (app x y))", "y", "x", "(let x0 x (app x0 x))"}, {"(let x y x)", "y", "x", "(let x0 x x0)"}, {"(let x (lam x y) y)", "y", "x", "(let x0 (lam x1 x) x)"},
		{"(lam x (let z x (lam y1 (app y (app z y1)))))", "y", "(app x (app z y1))", "(lam x0 (let x1 x0 (lam x2 (app (app x (app z y1)) (app x1 x2)))))"},
		{"(lam x y)", "y", "(lam z x)", "(lam x0 (lam x1 x))"}, {"(lam x y)", "y", "(lam x x)", "(lam x0 (lam x1 x1))"}, {"(lam x y)", "y", "(app (lam x x) x)", "(lam x0 (app (lam x1 x1) x))"},
		// Canonical names that are free in what is put are left out.
		{"(lam x (app x y))", "y", "x0", "(lam x1 (app x1 x0))"}, {"(lam x0 (app x0 y))", "y", "x0", "(lam x1 (app x1 x0))"}, {"(lam x (lam z (app y (app x z))))", "y", "(pair x1 x0)", "(lam x2 (lam x3 (app (pair x1 x0) (app x2 x3))))"},
		{"(let x0 true (pair x0 y))", "y", "x0", "(let x1 true (pair x1 x0))"}, {"(pair (lam x0 x0) y)", "y", "x0", "(pair (lam x1 x1) x0)"},
		// A canonical name that was free and is put away is free no more.
		{"(lam y (app y x0))", "x0", "true", "(lam x0 (app x0 true))"}, {"(lam y (app y x0))", "x0", "x1", "(lam x0 (app x0 x1))"}, {"(lam y (app y x0))", "x0", "(fst x0)", "(lam x1 (app x1 (fst x0)))"},
		// What is put is not put in again.
		{"(app x y)", "x", "(app x y)", "(app (app x y) y)"}, {"(app x y)", "x", "y", "(app y y)"}, {"(lam z (app x z))", "x", "(lam y (app x y))", "(lam x0 (app (lam x1 (app x x1)) x0))"},
		{"(if x x0 y)", "x0", "(let z z z)", "(if x (let x0 z x0) y)"}, {"(snd (pair x y))", "y", "(fst y)", "(snd (pair x (fst y)))"},
		{"x0", "x0", "x00", "x00"}, {"(app x0 x00)", "x0", "true", "(app true x00)"}, {"x999", "x999", "(lam x x)", "(lam x0 x0)"},
		// Invalid arguments.
		{"x", "true", "x", ""}, {"x", "lam", "x", ""}, {"x", "", "x", ""}, {"x", "xx", "x", ""}, {"x", "x1234", "x", ""}, {"x", "(fst x)", "x", ""}, {"x", "x", "(fst)", ""}, {"x", "x", "", ""}, {"(fst", "x", "x", ""}, {"x", "y", "X", ""}, {"", "x", "x", ""},
	}
	for _, c := range cases {
		result, ok := impl.TermPut(c.s, c.name, c.by)
		checkText(t, "TermPut of "+c.s+", "+c.name+", "+c.by, result, ok, c.want)
	}
}

func TestPutsThatWouldBeTooLarge(t *testing.T) {
	for _, n := range []int{1, 2, 3, 10, 100, 149} {
		row := around(n-1, "(app x ", "x", ")") // n times x in 2 * n - 1 atoms
		for size := 1; size <= impl.TermMax; size++ {
			total := 2*n - 1 + n*(size-1)
			if total > impl.TermMax+2*n && size < impl.TermMax {
				continue
			}
			by, want := around(size-1, "(fst ", "y", ")"), ""
			if total <= impl.TermMax {
				want = strings.ReplaceAll(row, "x", by)
			}
			result, ok := impl.TermPut(row, "x", by)
			checkText(t, fmt.Sprintf("TermPut of %d atoms for %d names", size, n), result, ok, want)
		}
	}
	largest := around(impl.TermMax-1, "(fst ", "x", ")")
	for _, c := range [][4]string{
		{largest, "x", "y", strings.ReplaceAll(largest, "x", "y")}, {largest, "x", "true", strings.ReplaceAll(largest, "x", "true")}, {largest, "x", "(fst y)", ""}, {largest, "y", largest, largest}, {"y", "x", largest, "y"}, {"x", "x", largest, largest}, {"(fst x)", "x", largest, ""},
		{"(lam x x)", "x", largest, "(lam x0 x0)"}, {"(lam y x)", "x", largest, ""}, {around(149, "(app x ", "x", ")"), "x", largest, ""}, {"(let x true x)", "x", largest, "(let x0 true x0)"}, {"(let x x true)", "x", largest, ""},
		{"(pair x x)", "x", around(149, "(fst ", "(lam y y)", ")"), ""}, {"(app x x)", "x", around(148, "(snd ", "y", ")"), "(app " + around(148, "(snd ", "y", ")") + " " + around(148, "(snd ", "y", ")") + ")"},
	} {
		result, ok := impl.TermPut(c[0], c[1], c[2])
		checkText(t, "TermPut of "+short(c[0])+", "+c[1]+", "+short(c[2]), result, ok, c[3])
	}
}

func TestResultsOfTermsAreApart(t *testing.T) {
	for _, list := range []func(string) ([]string, bool){impl.TermKids, impl.TermFree} {
		s := "(if a (pair b c) d)"
		first, _ := list(s)
		second, _ := list(s)
		want := slices.Clone(second)
		for i := range first[:cap(first)] {
			first[:cap(first)][i] = "z"
		}
		if third, _ := list(s); !slices.Equal(second, want) || !slices.Equal(third, want) {
			t.Errorf("results share memory: %q and %q", second, third)
		}
	}
}
