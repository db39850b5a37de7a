package tests

import (
	"fmt"
	"slices"
	"strings"
	"testing"

	"loop.example/parametric/impl"
)

// A foundCase tells the terms of a type up to some depths, with bars between them.
type foundCase struct {
	s     string
	least int
	most  int
	want  string
}

func (c foundCase) terms() []string {
	if c.want == "" {
		return nil
	}
	return strings.Split(c.want, " | ")
}

func checkFound(t *testing.T, cases []foundCase) {
	t.Helper()
	for _, c := range cases {
		checkTerms(t, c.s, 0, nil)
		for depth := c.least; depth <= c.most; depth++ {
			checkTerms(t, c.s, depth, c.terms())
		}
	}
}

func TestTermsWithoutPaths(t *testing.T) {
	checkFound(t, []foundCase{
		{"o", 1, 4, "true | false"}, {"a", 1, 4, ""}, {"(* o o)", 1, 4, "(pair true true) | (pair true false) | (pair false true) | (pair false false)"}, {"(* o a)", 1, 4, ""}, {"(* a o)", 1, 4, ""}, {"(* (* o o) a)", 1, 4, ""}, {"(> o a)", 1, 4, ""}, {"(* (> o a) o)", 1, 4, ""},
		{"(> a a)", 1, 4, "(lam x0 x0)"}, {"(> a o)", 1, 4, "(lam x0 true) | (lam x0 false)"}, {"(> o o)", 1, 4, "(lam x0 true) | (lam x0 false) | (lam x0 x0)"}, {"(> a (* a a))", 1, 4, "(lam x0 (pair x0 x0))"}, {"(> a (* o a))", 1, 4, "(lam x0 (pair true x0)) | (lam x0 (pair false x0))"},
		// Names come in the order in which they are bound.
		{"(> a (> a a))", 1, 4, "(lam x0 (lam x1 x0)) | (lam x0 (lam x1 x1))"}, {"(> a (> o a))", 1, 4, "(lam x0 (lam x1 x0))"}, {"(> o (> a a))", 1, 4, "(lam x0 (lam x1 x1))"}, {"(> a (> o o))", 1, 4, "(lam x0 (lam x1 true)) | (lam x0 (lam x1 false)) | (lam x0 (lam x1 x1))"}, {"(> o (> o o))", 1, 4, "(lam x0 (lam x1 true)) | (lam x0 (lam x1 false)) | (lam x0 (lam x1 x0)) | (lam x0 (lam x1 x1))"}, {"(> a (> a (> a a)))", 1, 4, "(lam x0 (lam x1 (lam x2 x0))) | (lam x0 (lam x1 (lam x2 x1))) | (lam x0 (lam x1 (lam x2 x2)))"},
		// For each first part of pairs there is each second one; what is bound in both has other names.
		{"(* (> a a) (> a a))", 1, 4, "(pair (lam x0 x0) (lam x1 x1))"}, {"(* (> a a) (> a (> a a)))", 1, 4, "(pair (lam x0 x0) (lam x1 (lam x2 x1))) | (pair (lam x0 x0) (lam x1 (lam x2 x2)))"}, {"(* (> a (> a a)) (> a a))", 1, 4, "(pair (lam x0 (lam x1 x0)) (lam x2 x2)) | (pair (lam x0 (lam x1 x1)) (lam x2 x2))"}, {"(* (> o o) o)", 1, 4, "(pair (lam x0 true) true) | (pair (lam x0 true) false) | (pair (lam x0 false) true) | (pair (lam x0 false) false) | (pair (lam x0 x0) true) | (pair (lam x0 x0) false)"}, {"(* o (> o o))", 1, 4, "(pair true (lam x0 true)) | (pair true (lam x0 false)) | (pair true (lam x0 x0)) | (pair false (lam x0 true)) | (pair false (lam x0 false)) | (pair false (lam x0 x0))"},
	})
}

func TestTermsByPathsThroughPairs(t *testing.T) {
	checkFound(t, []foundCase{
		{"(> (* a a) a)", 1, 4, "(lam x0 (fst x0)) | (lam x0 (snd x0))"}, {"(> (* o a) a)", 1, 4, "(lam x0 (snd x0))"}, {"(> (* o a) o)", 1, 4, "(lam x0 true) | (lam x0 false) | (lam x0 (fst x0))"}, {"(> (* a o) (* o a))", 1, 4, "(lam x0 (pair true (fst x0))) | (lam x0 (pair false (fst x0))) | (lam x0 (pair (snd x0) (fst x0)))"},
		// What fst leads to comes before what snd leads to, however far it is.
		{"(> (* (* a a) a) a)", 1, 4, "(lam x0 (fst (fst x0))) | (lam x0 (snd (fst x0))) | (lam x0 (snd x0))"}, {"(> (* a (* a a)) a)", 1, 4, "(lam x0 (fst x0)) | (lam x0 (fst (snd x0))) | (lam x0 (snd (snd x0)))"}, {"(> (* (* a (* a a)) a) a)", 1, 4, "(lam x0 (fst (fst x0))) | (lam x0 (fst (snd (fst x0)))) | (lam x0 (snd (snd (fst x0)))) | (lam x0 (snd x0))"}, {"(> (* (* o a) (* a o)) a)", 1, 4, "(lam x0 (snd (fst x0))) | (lam x0 (fst (snd x0)))"},
		{"(> (* a a) (* a a))", 1, 4, "(lam x0 (pair (fst x0) (fst x0))) | (lam x0 (pair (fst x0) (snd x0))) | (lam x0 (pair (snd x0) (fst x0))) | (lam x0 (pair (snd x0) (snd x0)))"},
		// What a name leads to comes before the next name.
		{"(> a (> (* a a) a))", 1, 4, "(lam x0 (lam x1 x0)) | (lam x0 (lam x1 (fst x1))) | (lam x0 (lam x1 (snd x1)))"}, {"(> (* a a) (> a a))", 1, 4, "(lam x0 (lam x1 (fst x0))) | (lam x0 (lam x1 (snd x0))) | (lam x0 (lam x1 x1))"},
	})
}

func TestTermsByPathsThroughFunctions(t *testing.T) {
	checkFound(t, []foundCase{
		// Arguments are found up to the depth less 1.
		{"(> (> o a) a)", 1, 1, ""}, {"(> (> o a) a)", 2, 4, "(lam x0 (app x0 true)) | (lam x0 (app x0 false))"}, {"(> (> a a) a)", 1, 4, ""}, {"(> (> (> o a) a) a)", 1, 4, ""}, {"(* (> a a) (> (> a a) a))", 1, 4, ""},
		{"(> (> a a) (> a a))", 1, 1, "(lam x0 (lam x1 x1))"}, {"(> (> a a) (> a a))", 2, 2, "(lam x0 (lam x1 (app x0 x1))) | (lam x0 (lam x1 x1))"}, {"(> (> a a) (> a a))", 3, 3, "(lam x0 (lam x1 (app x0 (app x0 x1)))) | (lam x0 (lam x1 (app x0 x1))) | (lam x0 (lam x1 x1))"}, {"(> (> a a) (> a a))", 4, 4, "(lam x0 (lam x1 (app x0 (app x0 (app x0 x1))))) | (lam x0 (lam x1 (app x0 (app x0 x1)))) | (lam x0 (lam x1 (app x0 x1))) | (lam x0 (lam x1 x1))"},
		{"(> a (> (> a a) a))", 1, 1, "(lam x0 (lam x1 x0))"}, {"(> a (> (> a a) a))", 3, 3, "(lam x0 (lam x1 x0)) | (lam x0 (lam x1 (app x1 x0))) | (lam x0 (lam x1 (app x1 (app x1 x0))))"},
		{"(> (> o o) o)", 1, 1, "(lam x0 true) | (lam x0 false)"}, {"(> (> o o) o)", 2, 2, "(lam x0 true) | (lam x0 false) | (lam x0 (app x0 true)) | (lam x0 (app x0 false))"}, {"(> (> o o) o)", 3, 3, "(lam x0 true) | (lam x0 false) | (lam x0 (app x0 true)) | (lam x0 (app x0 false)) | (lam x0 (app x0 (app x0 true))) | (lam x0 (app x0 (app x0 false)))"},
		{"(> (> a o) (> a o))", 1, 1, "(lam x0 (lam x1 true)) | (lam x0 (lam x1 false))"}, {"(> (> a o) (> a o))", 2, 4, "(lam x0 (lam x1 true)) | (lam x0 (lam x1 false)) | (lam x0 (lam x1 (app x0 x1)))"}, {"(> (> a (> a o)) (> a o))", 2, 4, "(lam x0 (lam x1 true)) | (lam x0 (lam x1 false)) | (lam x0 (lam x1 (app (app x0 x1) x1)))"},
		// Of several arguments the last one changes first.
		{"(> (> o (> o a)) a)", 2, 4, "(lam x0 (app (app x0 true) true)) | (lam x0 (app (app x0 true) false)) | (lam x0 (app (app x0 false) true)) | (lam x0 (app (app x0 false) false))"}, {"(> (> (* o o) a) a)", 2, 4, "(lam x0 (app x0 (pair true true))) | (lam x0 (app x0 (pair true false))) | (lam x0 (app x0 (pair false true))) | (lam x0 (app x0 (pair false false)))"}, {"(> (> o (* a a)) a)", 2, 4, "(lam x0 (fst (app x0 true))) | (lam x0 (snd (app x0 true))) | (lam x0 (fst (app x0 false))) | (lam x0 (snd (app x0 false)))"},
		{"(> (> a (> a a)) (> a a))", 3, 3, "(lam x0 (lam x1 (app (app x0 (app (app x0 x1) x1)) (app (app x0 x1) x1)))) | (lam x0 (lam x1 (app (app x0 (app (app x0 x1) x1)) x1))) | (lam x0 (lam x1 (app (app x0 x1) (app (app x0 x1) x1)))) | (lam x0 (lam x1 (app (app x0 x1) x1))) | (lam x0 (lam x1 x1))"},
		{"(> (* (> a a) a) a)", 1, 1, "(lam x0 (snd x0))"}, {"(> (* (> a a) a) a)", 3, 3, "(lam x0 (app (fst x0) (app (fst x0) (snd x0)))) | (lam x0 (app (fst x0) (snd x0))) | (lam x0 (snd x0))"},
		{"(> (> a (* a a)) (> a a))", 2, 2, "(lam x0 (lam x1 (fst (app x0 x1)))) | (lam x0 (lam x1 (snd (app x0 x1)))) | (lam x0 (lam x1 x1))"}, {"(> (> a (* a a)) (> a a))", 3, 3, "(lam x0 (lam x1 (fst (app x0 (fst (app x0 x1)))))) | (lam x0 (lam x1 (snd (app x0 (fst (app x0 x1)))))) | (lam x0 (lam x1 (fst (app x0 (snd (app x0 x1)))))) | (lam x0 (lam x1 (snd (app x0 (snd (app x0 x1)))))) | (lam x0 (lam x1 (fst (app x0 x1)))) | (lam x0 (lam x1 (snd (app x0 x1)))) | (lam x0 (lam x1 x1))"},
	})
}

// Arguments that are functions have names of their own, behind those that there are.
func TestTermsByFunctionsOfFunctions(t *testing.T) {
	checkFound(t, []foundCase{
		{"(> (> (> a a) a) a)", 1, 1, ""}, {"(> (> (> a a) a) a)", 2, 2, "(lam x0 (app x0 (lam x1 x1)))"}, {"(> (> (> a a) a) a)", 3, 3, "(lam x0 (app x0 (lam x1 (app x0 (lam x2 x1))))) | (lam x0 (app x0 (lam x1 (app x0 (lam x2 x2))))) | (lam x0 (app x0 (lam x1 x1)))"}, {"(> (> (> a a) a) a)", 4, 4, "(lam x0 (app x0 (lam x1 (app x0 (lam x2 (app x0 (lam x3 x1))))))) | (lam x0 (app x0 (lam x1 (app x0 (lam x2 (app x0 (lam x3 x2))))))) | (lam x0 (app x0 (lam x1 (app x0 (lam x2 (app x0 (lam x3 x3))))))) | (lam x0 (app x0 (lam x1 (app x0 (lam x2 x1))))) | (lam x0 (app x0 (lam x1 (app x0 (lam x2 x2))))) | (lam x0 (app x0 (lam x1 x1)))"},
		{"(> (> (> a o) o) o)", 1, 1, "(lam x0 true) | (lam x0 false)"}, {"(> (> (> a o) o) o)", 2, 2, "(lam x0 true) | (lam x0 false) | (lam x0 (app x0 (lam x1 true))) | (lam x0 (app x0 (lam x1 false)))"}, {"(> (> (> a o) o) o)", 3, 3, "(lam x0 true) | (lam x0 false) | (lam x0 (app x0 (lam x1 true))) | (lam x0 (app x0 (lam x1 false))) | (lam x0 (app x0 (lam x1 (app x0 (lam x2 true))))) | (lam x0 (app x0 (lam x1 (app x0 (lam x2 false)))))"},
		{"(> (> (> a o) a) a)", 1, 1, ""}, {"(> (> (> a o) a) a)", 2, 4, "(lam x0 (app x0 (lam x1 true))) | (lam x0 (app x0 (lam x1 false)))"}, {"(> (> (> a (> a a)) a) a)", 2, 2, "(lam x0 (app x0 (lam x1 (lam x2 x1)))) | (lam x0 (app x0 (lam x1 (lam x2 x2))))"}, {"(> (> (* a a) a) (> a a))", 2, 2, "(lam x0 (lam x1 (app x0 (pair x1 x1)))) | (lam x0 (lam x1 x1))"},
		// In a pair the names of the second part are behind those of the first one in the text, but not around it.
		{"(> (> (* (> a a) o) o) o)", 2, 2, "(lam x0 true) | (lam x0 false) | (lam x0 (app x0 (pair (lam x1 x1) true))) | (lam x0 (app x0 (pair (lam x1 x1) false)))"}, {"(> (> (* (> a a) o) o) o)", 3, 3, "(lam x0 true) | (lam x0 false) | (lam x0 (app x0 (pair (lam x1 x1) true))) | (lam x0 (app x0 (pair (lam x1 x1) false))) | (lam x0 (app x0 (pair (lam x1 x1) (app x0 (pair (lam x2 x2) true))))) | (lam x0 (app x0 (pair (lam x1 x1) (app x0 (pair (lam x2 x2) false)))))"},
		// The name of an argument that is a function is a function itself.
		{"(> (> (> (> o o) o) o) o)", 2, 2, "(lam x0 true) | (lam x0 false) | (lam x0 (app x0 (lam x1 true))) | (lam x0 (app x0 (lam x1 false)))"}, {"(> (> (> (> o o) o) o) o)", 3, 3, "(lam x0 true) | (lam x0 false) | (lam x0 (app x0 (lam x1 true))) | (lam x0 (app x0 (lam x1 false))) | (lam x0 (app x0 (lam x1 (app x0 (lam x2 true))))) | (lam x0 (app x0 (lam x1 (app x0 (lam x2 false))))) | (lam x0 (app x0 (lam x1 (app x1 true)))) | (lam x0 (app x0 (lam x1 (app x1 false))))"}, {"(> (> (> (> a a) a) a) a)", 1, 4, ""},
	})
}

func TestDepthsOfTerms(t *testing.T) {
	for _, kind := range typesUpTo(7, "oa") {
		checkTerms(t, kind.String(), 0, nil)
		for _, depth := range badDepths() {
			checkNoTerms(t, kind.String(), depth)
			checkReached(t, kind.String(), 1, depth, nil, false)
		}
	}
	checkTerms(t, "(> (> a a) (> a a))", 4, plainTexts(readType("(> (> a a) (> a a))"), 4))
}

func TestAtomsOfTypesOfTerms(t *testing.T) {
	d := dice(72)
	for atoms := 1; atoms < impl.TypeMax; atoms += 2 {
		for range 6 {
			kind := d.typeOf(atoms, "oa")
			for depth := range 5 {
				if atoms <= 9 {
					checkTerms(t, kind.String(), depth, plainTexts(kind, depth))
					continue
				}
				checkNoTerms(t, kind.String(), depth)
				checkReached(t, kind.String(), 1, depth, nil, false)
			}
		}
	}
	checkTerms(t, "(> a (> a (> a (> a a))))", 1, splitAt("(lam x0 (lam x1 (lam x2 (lam x3 #))))", "x0", "x1", "x2", "x3"))
	checkNoTerms(t, "(> a (> a (> a (> a (> a a)))))", 1)
	checkNoTerms(t, "(* (* o o) (* (* o o) (* o o)))", 1)
	checkNoTerms(t, "(> (* a a) (> (* a a) (* a a)))", 0)
}

// splitAt returns a text with each part at its mark.
func splitAt(text string, parts ...string) []string {
	all := []string{}
	for _, part := range parts {
		all = append(all, strings.ReplaceAll(text, "#", part))
	}
	return all
}

func TestListsOfManyTerms(t *testing.T) {
	for _, c := range []struct {
		s     string
		depth int
		count int
		last  string
	}{
		// Two times the terms of (> (> o (* o o)) o), which are 6, 14 and 30: just FoundMax terms.
		{"(* o (> (> o (* o o)) o))", 2, 12, "(pair false (lam x0 (snd (app x0 false))))"}, {"(* o (> (> o (* o o)) o))", 3, 28, "(pair false (lam x0 (snd (app x0 (snd (app x0 false))))))"}, {"(* o (> (> o (* o o)) o))", 4, 60, "(pair false (lam x0 (snd (app x0 (snd (app x0 (snd (app x0 false))))))))"}, {"(* (> (> o (* o o)) o) o)", 4, 60, "(pair (lam x0 (snd (app x0 (snd (app x0 (snd (app x0 false))))))) false)"},
		// Of 4 times 16 pairs and of 16 times 4, the first 60.
		{"(> (* o o) (* o (* o o)))", 1, 60, "(lam x0 (pair (snd x0) (pair (fst x0) (snd x0))))"}, {"(> (* o o) (* (* o o) o))", 1, 60, "(lam x0 (pair (pair (snd x0) (fst x0)) (snd x0)))"}, {"(> (* o (* o o)) (* o o))", 1, 25, "(lam x0 (pair (snd (snd x0)) (snd (snd x0))))"},
		// Truth values: 2, 6, 38, and then more than 1400.
		{"(> (> o (> o o)) o)", 1, 2, "(lam x0 false)"}, {"(> (> o (> o o)) o)", 2, 6, "(lam x0 (app (app x0 false) false))"}, {"(> (> o (> o o)) o)", 3, 38, ""}, {"(> (> o (> o o)) o)", 4, 60, ""}, {"(> (> (* o o) o) o)", 3, 38, ""}, {"(> (> (* o o) o) o)", 4, 60, ""}, {"(> (> o (> o (> o o))) o)", 3, 60, ""}, {"(> (> o (> o (> o o))) o)", 2, 10, "(lam x0 (app (app (app x0 false) false) false))"}, {"(> (> o (> o (> o a))) a)", 2, 8, ""},
		// Elements of a: 2, 8 and so on.
		{"(> (> o (> o (* o a))) a)", 4, 60, ""}, {"(> (> o (> o (* o a))) a)", 3, 36, ""}, {"(> (> a (> a a)) (> a a))", 4, 26, "(lam x0 (lam x1 x1))"},
		// Functions are not counted on their own, and 60 of a type are 60 of functions to it.
		{"(> a (> (> o (> o o)) o))", 4, 60, ""}, {"(> a (> (* o o) (* o o)))", 1, 16, "(lam x0 (lam x1 (pair (snd x1) (snd x1))))"},
	} {
		texts, ok := impl.TermsOf(c.s, c.depth)
		if !ok || len(texts) != c.count || c.last != "" && texts[len(texts)-1] != c.last {
			t.Errorf("TermsOf(%q, %d) returns %d terms, %v, not %d, the last one %q", c.s, c.depth, len(texts), ok, c.count, texts[max(0, len(texts)-1):])
		}
		checkTerms(t, c.s, c.depth, plainTexts(readType(c.s), c.depth))
	}
}

// What a path is applied to is not on its way: terms with 8 atoms of app, fst and snd are found, and those with 9 and more, too.
func TestPathsOfTerms(t *testing.T) {
	for _, c := range []struct {
		s     string
		depth int
		atoms []int
	}{
		{"(> (> a (> a a)) (> a a))", 4, []int{0, 2, 4, 6, 8, 10, 12, 14}}, {"(> (* o (* o (> o o))) o)", 4, []int{0, 1, 2, 3, 4, 6, 7, 8, 9, 10, 11}}, {"(> (* (> a a) a) a)", 4, []int{1, 3, 5, 7}}, {"(> (> o (> o (* o a))) a)", 4, []int{3, 6, 9}}, {"(> (* o (> (* o o) o)) o)", 4, []int{0, 1, 2, 3, 4, 5, 6, 7, 8, 9, 10}}, {"(> (> a (* a a)) (> a a))", 4, []int{0, 2, 4, 6}},
	} {
		texts, _ := impl.TermsOf(c.s, c.depth)
		for _, atoms := range c.atoms {
			if !slices.ContainsFunc(texts, func(x string) bool { return pathAtoms(x) == atoms }) {
				t.Errorf("TermsOf(%q, %d) has no term with %d atoms of app, fst and snd", c.s, c.depth, atoms)
			}
		}
		checkTerms(t, c.s, c.depth, plainTexts(readType(c.s), c.depth))
	}
	// The longest ways that types of 9 atoms have.
	checkFound(t, []foundCase{
		{"(> (* a (* a (* o a))) a)", 1, 4, "(lam x0 (fst x0)) | (lam x0 (fst (snd x0))) | (lam x0 (snd (snd (snd x0))))"}, {"(> (> o (* o (> o a))) a)", 2, 2, "(lam x0 (app (snd (app x0 true)) true)) | (lam x0 (app (snd (app x0 true)) false)) | (lam x0 (app (snd (app x0 false)) true)) | (lam x0 (app (snd (app x0 false)) false))"},
	})
}

// foundTypes returns all types of few atoms with at most the variable a, and some of 9 atoms.
func foundTypes(seed int) []oneType {
	d := dice(seed)
	all := typesUpTo(7, "oa")
	for range 500 {
		all = append(all, d.typeOf(9, "oa"))
	}
	return all
}

func TestTermsThatAreFound(t *testing.T) {
	found := 0
	for _, kind := range foundTypes(73) {
		for depth := range 5 {
			want := plainTexts(kind, depth)
			checkTerms(t, kind.String(), depth, want)
			found += len(want)
		}
	}
	checkCount(t, "terms are found", found, 10000)
}

// A term is found from the depth on that its deepest arguments need, and the order does not depend on the depth.
func TestTermsOfLessDepth(t *testing.T) {
	deep := 0
	for _, kind := range foundTypes(74) {
		s := kind.String()
		for depth := 1; depth <= 4; depth++ {
			texts, _ := impl.TermsOf(s, depth)
			if len(texts) == impl.FoundMax {
				continue
			}
			less := []string{}
			for _, x := range texts {
				switch n := read(x).depthOf(); {
				case n > depth:
					t.Errorf("TermsOf(%q, %d) has %q", s, depth, x)
				case n < depth:
					less = append(less, x)
				default:
					deep++
				}
			}
			checkTerms(t, s, depth-1, less)
		}
	}
	checkCount(t, "there are terms that need the whole depth", deep, 3000)
}

func TestReachedByHand(t *testing.T) {
	for _, c := range []struct {
		s     string
		n     int
		depth int
		want  string
	}{
		{"o", 1, 1, "0 1"}, {"o", 3, 4, "0 1"}, {"a", 2, 4, ""}, {"(> a a)", 1, 1, "0"}, {"(> a a)", 2, 1, "2"}, {"(> a a)", 3, 1, "21"}, {"(> a (> a a))", 2, 1, "10 12"}, {"(> a (> a a))", 1, 1, "0"}, {"(> a o)", 3, 1, "0 7"}, {"(* o o)", 2, 1, "0 1 2 3"}, {"(> (* a a) (* a a))", 2, 1, "204 216 228 240"}, {"(> (> a o) o)", 3, 4, "0 255"},
		// Parametric, but no term means it: the function that exchanges truth values, and what is of most numbers.
		{"(> o o)", 2, 4, "0 2 3"}, {"(> a (> a (> a a)))", 2, 4, "170 204 240"}, {"(> (> a o) (> a o))", 2, 4, "0 228 255"},
		// More with more depth, until several terms mean the same.
		{"(> (> a a) (> a a))", 2, 1, "170"}, {"(> (> a a) (> a a))", 2, 2, "170 228"}, {"(> (> a a) (> a a))", 2, 3, "170 228 232"}, {"(> (> a a) (> a a))", 2, 4, "170 228 232"}, {"(> (> a a) (> a a))", 1, 4, "0"}, {"(> (> o a) a)", 2, 1, ""}, {"(> (> o a) a)", 2, 2, "10 12"}, {"(> (> (> a o) o) o)", 1, 2, "0 10 12 15"}, {"(> (> (> a o) o) o)", 1, 4, "0 8 10 12 14 15"}, {"(> (> (> a a) a) a)", 1, 4, "0"}, {"(> (> (> a a) a) a)", 1, 1, ""},
	} {
		checkReached(t, c.s, c.n, c.depth, numbersOf(c.want), true)
		checkReached(t, c.s, c.n, 0, nil, true)
	}
	// Terms whose meaning is not known, as the count of their type is not; or there are too many elements to list.
	for _, c := range []struct {
		s string
		n int
	}{
		{"(> (> a a) (> a a))", 3}, {"(> a (> a a))", 3}, {"(> (> (> a a) a) a)", 2}, {"(> (> a (> a a)) (> a a))", 2}, {"(> (> (> a a) a) a)", 3}, {"(> a (* a a))", 3}, {"(> a (> a o))", 3}, {"(* (> a a) (> a a))", 3}, {"(> (* a o) (* a o))", 3}, {"(> a (> o (* o a)))", 3},
	} {
		if texts, ok := impl.TermsOf(c.s, 3); !ok || len(texts) == 0 {
			t.Errorf("TermsOf(%q, 3) returns no terms", c.s)
		}
		checkNoList(t, c.s, c.n)
	}
}

// plainReached returns what terms mean, or false if it takes too long to find.
func plainReached(kind oneType, n int, depth int) ([]int, bool) {
	reached := []int{}
	for _, x := range plainTerms(kind, nil, depth) {
		element, ok := plainMean(x, kind.String(), modelOf(fmt.Sprint("a", n)))
		if !ok || element < 0 {
			return nil, false
		}
		reached = append(reached, element)
	}
	slices.Sort(reached)
	return slices.Compact(reached), true
}

func TestReachedElements(t *testing.T) {
	d := dice(75)
	all, reaches, several := typesUpTo(5, "oa"), 0, 0
	for range 400 {
		all = append(all, d.typeOf(7+2*d.below(2), "oa"))
	}
	for _, kind := range all {
		for n := 1; n <= 3; n++ {
			count := modelOf(fmt.Sprint("a", n)).count(kind)
			if count < 0 || count > 300 {
				checkNoList(t, kind.String(), n)
				continue
			}
			depth := d.below(5)
			want, ok := plainReached(kind, n, depth)
			if !ok {
				continue
			}
			checkReached(t, kind.String(), n, depth, want, true)
			if len(want) > 0 {
				reaches++
			}
			if len(want) < len(plainTerms(kind, nil, depth)) {
				several++
			}
		}
	}
	checkCount(t, "elements are reached", reaches, 200)
	checkCount(t, "several terms reach one", several, 25)
}
