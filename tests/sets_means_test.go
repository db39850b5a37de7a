package tests

import (
	"fmt"
	"strings"
	"testing"

	"loop.example/parametric/impl"
)

func TestWhatTermsMean(t *testing.T) {
	found, large := 0, 0
	for _, c := range meanCases(t, 50) {
		if checkMean(t, c.x, c.kind, c.model) {
			found++
			if c.model.count(readType(c.kind)) > 4 {
				large++
			}
		}
	}
	checkCount(t, "what a term means is found", found, 5000)
	checkCount(t, "it is an element of a set of more than 4", large, 1500)
}

// A handCase is a term with a type and a model, and the element that it means, or -1 if there is none.
type handCase struct {
	s     string
	kind  string
	model string
	want  int
}

// checkByHand checks everything that is told of what a term means.
func checkByHand(t *testing.T, c handCase) {
	t.Helper()
	m := modelOf(c.model)
	lists := twoLists{m.names, m.sizes}
	if c.want < 0 {
		checkNoMean(t, c.s, c.kind, lists)
		return
	}
	if x, ok := impl.Mean(c.s, c.kind, m.names, m.sizes); !ok || x != c.want {
		t.Errorf("Mean(%q, %q, %s) returns %d, %v and not %d", short(c.s), c.kind, m, x, ok, c.want)
	}
	if !impl.MeanSame(c.s, c.s, c.kind, m.names, m.sizes) {
		t.Errorf("MeanSame(%q, itself, %q, %s) does not hold", short(c.s), c.kind, m)
	}
	kind := readType(c.kind)
	if kind.atom != ">" {
		for _, a := range []int{-1, 0, 1, 2} {
			checkNoApp(t, c.s, c.kind, lists, a)
		}
		return
	}
	table := m.set(kind).list[c.want]
	for a, want := range table {
		if x, ok := impl.MeanApp(c.s, c.kind, m.names, m.sizes, a); !ok || x != want {
			t.Errorf("MeanApp(%q, %q, %s, %d) returns %d, %v and not %d", short(c.s), c.kind, m, a, x, ok, want)
		}
	}
	for _, a := range []int{-1, -len(table), len(table), len(table) + 1, 4097} {
		checkNoApp(t, c.s, c.kind, lists, a)
	}
}

func TestMeaningsByHand(t *testing.T) {
	for _, c := range []handCase{
		{"true", "o", "", 1}, {"false", "o", "", 0}, {"true", "o", "a4", 1}, {"(lam x x)", "(> o o)", "", 2}, {notTerm, "(> o o)", "", 1}, {"(lam x true)", "(> o o)", "", 3}, {"(lam x false)", "(> o o)", "", 0}, {"(lam x x)", "(> a a)", "a2", 2}, {"(lam x x)", "(> a a)", "a3", 21}, {"(lam x x)", "(> a a)", "a4", 228}, {"(lam x x)", "(> z z)", "a1 z3", 21}, {"(lam x x)", "(> (* o a) (* o a))", "a2", 228}, {"(lam x x)", "(> (* o a) (* o a))", "a1", 2},
		{"(lam x (lam y x))", "(> a (> a a))", "a2", 12}, {"(lam x (lam y y))", "(> a (> a a))", "a2", 10}, {"(lam x (lam y x))", "(> a (> b a))", "a2 b3", 56}, {"(lam x (lam y x))", "(> a (> b a))", "a3 b2", 684}, {"(lam x (lam y x))", "(> a (> b a))", "b2 a3", 684}, {"(lam x (lam y y))", "(> a (> b b))", "a3 b2", 42}, {"(lam x (lam y x))", "(> a (> a a))", "a3", -1}, {"(lam x true)", "(> a o)", "a4", 15}, {"(lam x (lam x x))", "(> a (> a a))", "a2", 10},
		{"(pair true false)", "(* o o)", "", 2}, {"(pair false true)", "(* o o)", "", 1}, {"(pair (pair true false) true)", "(* (* o o) o)", "", 5}, {"(pair true (pair false true))", "(* o (* o o))", "", 5}, {"(pair (lam x x) true)", "(* (> a a) o)", "a3", 43}, {"(pair true (lam x x))", "(* o (> a a))", "a3", 48}, {"(lam x (pair x true))", "(> o (* o o))", "", 13}, {"(lam x (pair x x))", "(> a (* a a))", "a3", 4*9 + 8*81},
		{"(lam p (fst p))", "(> (* o o) o)", "", 12}, {"(lam p (snd p))", "(> (* o o) o)", "", 10}, {"(lam p (fst p))", "(> (* a b) a)", "a2 b3", 56}, {"(lam p (snd p))", "(> (* a b) b)", "a2 b3", 588}, {"(lam p (pair (snd p) (fst p)))", "(> (* o o) (* o o))", "", 216}, {"(lam p (pair (snd p) (fst p)))", "(> (* a b) (* b a))", "a1 b3", 21}, {"(lam p (pair (snd p) (fst p)))", "(> (* a b) (* b a))", "a2 b3", -1},
		{"(if true false true)", "o", "", 0}, {"(if false false true)", "o", "", 1}, {"(lam b (lam c (if b c false)))", "(> o (> o o))", "", 8}, {"(lam b (lam x (lam y (if b x y))))", "(> o (> a (> a a)))", "a2", 202}, {"(lam b (lam x (lam y (if b x y))))", "(> o (> a (> a a)))", "a1", 0}, {"(if true (lam x x) (lam x (if x false true)))", "(> o o)", "", 2}, {"(if false (pair true true) (pair true false))", "(* o o)", "", 2},
		{"(app " + notTerm + " true)", "o", "", 0}, {"(app (lam x (pair x x)) true)", "(* o o)", "", 3}, {"(app (lam f (app f true)) " + notTerm + ")", "o", "", 0}, {"(app (if true (lam x x) " + notTerm + ") false)", "o", "", 0}, {"(lam f (app f true))", "(> (> o o) o)", "", 12}, {"(lam f (app f true))", "(> (> o a) a)", "a2", 12}, {"(lam f (app f true))", "(> (> o a) a)", "a3", -1},
		{numeral(0), "(> (> a a) (> a a))", "a2", 170}, {numeral(1), "(> (> a a) (> a a))", "a2", 228}, {numeral(2), "(> (> a a) (> a a))", "a2", 232}, {numeral(3), "(> (> a a) (> a a))", "a2", 228}, {numeral(30), "(> (> a a) (> a a))", "a2", 232}, {numeral(2), "(> (> o o) (> o o))", "", 232}, {numeral(2), "(> (> a a) (> a a))", "a3", -1}, {numeral(7), "(> (> a a) (> a a))", "a1", 0}, {"(lam x x)", "(> (> a a) (> a a))", "a2", 228},
		{"(lam f (lam g (lam x (app f (app g x)))))", "(> (> a b) (> (> b a) (> b b)))", "a1 b2", 12}, {"(app (app " + plusTerm + " " + numeral(2) + ") " + numeral(3) + ")", "(> (> a a) (> a a))", "a2", -1}, {"(app (app " + numeral(3) + " " + notTerm + ") true)", "o", "", 0},
	} {
		checkByHand(t, c)
	}
}

func TestMeaningsOfLet(t *testing.T) {
	near, far := around(49, "(fst (pair ", "true", " true))"), around(50, "(fst (pair ", "true", " true))")
	for _, c := range []handCase{
		{"(let f (lam x x) (pair (app f true) f))", "(* o (> a a))", "a3", 48}, {"(let f (lam x x) (pair (app f true) (app f f)))", "(* o (> a a))", "a2", 6}, {"(let f (lam x x) (pair (app f true) (app f f)))", "(* o (> a a))", "a3", -1}, {"(let f (lam x x) (pair (app f true) (app f f)))", "(* o (> a a))", "a1", 1}, {"(let f (lam x x) (pair f f))", "(* (> a a) (> b b))", "a2 b3", 2*27 + 21}, {"(let n (lam b (if b false true)) (app n (app n true)))", "o", "", 1}, {"(lam y (let x y (pair x y)))", "(> o (* o o))", "", 12}, {"(lam y (let f (lam z y) (app f (app f f))))", "(> a a)", "a3", -1}, {"(lam y (let f (lam z y) (app f true)))", "(> a a)", "a3", 21},
		// What is not used must have a type with a known count, too, together with the lam around the rest.
		{"(let x true false)", "o", "", 0}, {"(let x (lam y y) true)", "o", "", 1}, {"(let x (lam y (lam z y)) (fst (pair true x)))", "o", "", 1}, {"(let x (lam y (lam z y)) true)", "o", "", -1}, {"(let x (lam y (lam z y)) (lam u u))", "(> a a)", "a1", 0}, {"(let x (lam y (lam z y)) (lam u u))", "(> a a)", "a2", -1}, {"(let x (lam y (app y y)) true)", "o", "", -1},
		// The term has a type, but cannot be unfolded, or not all the way.
		{"(let x " + near + " (pair x x))", "(* o o)", "", 3}, {"(let x " + far + " (pair x x))", "(* o o)", "", -1}, {"(fst (let x " + far + " (pair x x)))", "o", "", -1}, {"(let x " + far + " (fst (pair true (let y (pair x x) y))))", "o", "", -1}, {"(fst (pair true (let x " + far + " (pair x x))))", "o", "", -1}, {"(lam y (fst (pair y (let x " + far + " (pair x x)))))", "(> a a)", "a1", -1},
	} {
		checkByHand(t, c)
	}
	if !impl.InferHas("(let x "+far+" (pair x x))", "(* o o)") {
		t.Errorf("the term that cannot be unfolded has no type")
	}
}

// Variables of the types of parts that the type of the term does not tell are put as o, whatever the model has.
func TestVariablesThatTheTypeDoesNotTell(t *testing.T) {
	for _, model := range []string{"", "a1", "a4", "b1 a3", "a1 b1 c1 d1 e1 f1 g1 h1 i1 j1 k1 l1 m1 n1 p1 q1 r1 s1 t1 u1 v1 w1 x1 y1 z1"} {
		for _, c := range []handCase{
			{"(app (lam x true) (lam y y))", "o", model, 1}, {"(fst (pair false (lam x x)))", "o", model, 0}, {"(snd (pair (lam x (lam y x)) true))", "o", model, 1}, {"(if (fst (pair true (lam x (lam y y)))) false true)", "o", model, 0},
			// With one element for each variable, all of these counts would be known, and with three none of them.
			{"(fst (pair true (lam f (lam x (app f x)))))", "o", model, 1}, {"(fst (pair true (lam f (lam x (pair true (app f x))))))", "o", model, -1}, {"(fst (pair true (lam f (lam g (lam x (app f (app g x)))))))", "o", model, -1}, {"(fst (pair true (lam x (pair x (pair x (lam y (pair x y)))))))", "o", model, -1}, {"(fst (pair true (lam x (lam y (lam z (pair x (pair y z)))))))", "o", model, -1}, {"(fst (pair true (lam x (lam y (pair x y)))))", "o", model, 1}, {"(app (lam x true) (lam y (lam z true)))", "o", model, -1},
		} {
			checkByHand(t, c)
		}
	}
	for _, c := range []handCase{
		{"(lam y (fst (pair y (lam f (lam x (app f x))))))", "(> a a)", "a3", 21}, {"(lam y (fst (pair y (lam f (lam x (app f x))))))", "(> a a)", "a2", 2}, {"(lam y (fst (pair y (lam f (lam x (app f x))))))", "(> a a)", "a4", 228}, {"(lam y (fst (pair y (lam x x))))", "(> a a)", "a1", 0}, {"(lam y (fst (pair y (lam f (lam x (app f y))))))", "(> a a)", "a3", -1}, {"(lam y (fst (pair y (lam x y))))", "(> a a)", "a3", 21},
	} {
		checkByHand(t, c)
	}
}

// In sets of one element there is just 0, whatever stands around it.
func TestMeaningsInSetsOfOneElement(t *testing.T) {
	large := "(> (* c d) o)"
	model := "a1 c3 d4"
	for _, c := range []handCase{
		{"(lam x x)", "(> a a)", "a1", 0}, {"(lam x (pair x x))", "(> a (* a a))", "a1", 0}, {"(lam x true)", "(> a o)", "a1", 1}, {"(lam x (pair x true))", "(> a (* a o))", "a1", 1}, {"(lam x (pair true x))", "(> a (* o a))", "a1", 1}, {"(lam x (lam y y))", "(> a (> b b))", "a1 b4", 228}, {"(lam x (lam y x))", "(> a (> b a))", "a1 b4", 0}, {"(lam x (lam y x))", "(> b (> a b))", "a1 b4", 228}, {"(lam f (lam x (app f x)))", "(> (> a b) (> a b))", "a1 b4", 228}, {"(lam f (lam x (app f x)))", "(> (> b a) (> b a))", "a1 b4", 0}, {"(lam x (lam f (app f x)))", "(> a (> (> a o) o))", "a1", 2}, {"(lam p (fst p))", "(> (* a b) a)", "a1 b4", 0}, {"(lam p (snd p))", "(> (* a b) b)", "a1 b4", 228}, {"(lam p (fst p))", "(> (* b a) b)", "a1 b4", 228},
		// The other set is large.
		{"(lam x (lam y x))", "(> a (> " + large + " a))", model, 0}, {"(lam x (lam p true))", "(> a " + large + ")", model, 4095}, {"(lam x (lam p false))", "(> a " + large + ")", model, 0}, {"(lam x (pair x (lam p true)))", "(> a (* a " + large + "))", model, 4095}, {"(lam x (lam f (app f x)))", "(> a (> (> a " + large + ") " + large + "))", model, -1}, {"(lam x (app (lam p x) (lam q true)))", "(> a a)", model, 0}, {"(lam z " + lamRow(5, "z") + ")", "(> a " + chain(5, large, "a") + ")", model, 0}, {"(lam z " + lamRow(6, "z") + ")", "(> a " + chain(6, large, "a") + ")", model, 0},
		{"(lam f (lam g (lam x (app f (app g x)))))", "(> (> " + large + " a) (> (> b " + large + ") (> b a)))", "a1 b1 c3 d4", 0}, {"(lam f (lam g (lam x (app f (app g x)))))", "(> (> b a) (> (> " + large + " b) (> " + large + " a)))", "a1 b1 c3 d4", 0}, {"(lam f (lam x (lam y (app f x))))", "(> (> " + large + " a) (> " + large + " (> " + large + " a)))", model, 0}, {"(lam f (lam x (app (lam y (app f x)) x)))", "(> (> c a) (> c a))", model, 0}, {"(lam f (lam x (pair (app f x) (app f x))))", "(> (> " + large + " a) (> " + large + " (* a a)))", model, 0},
		{"(lam f (lam x (lam y (lam z (app (app (app f x) y) z)))))", "(> " + chain(3, large, "a") + " " + chain(3, large, "a") + ")", model, 0}, {"(lam f (lam x (lam y (lam z (app (app f (pair x y)) z)))))", "(> " + chain(1, "(* c d)", "(> "+large+" a)") + " " + chain(1, "c", "(> d (> "+large+" a))") + ")", model, 0},
		// A part goes from a large set, and the whole is known.
		{"(lam x (app (lam f true) (lam y (lam z x))))", "(> a o)", "a1", 1}, {"(lam z (app (lam f (app f true)) (lam y z)))", "(> a a)", "a1", 0},
	} {
		checkByHand(t, c)
	}
}

// All counts of the types of the parts must be known, also of those that are not needed.
func TestPartsWithoutKnownCounts(t *testing.T) {
	for _, c := range []handCase{
		{"(fst (pair true (lam f (lam x (lam y (lam z (app (app f x) (app y z))))))))", "o", "", -1}, {"(if true false (fst (pair true (lam f (lam g (lam x (app f (app g x))))))))", "o", "", -1}, {"(app (lam x true) (lam y (lam z y)))", "o", "", -1}, {"(app (lam n (app (app n (lam x x)) true)) " + numeral(2) + ")", "o", "", -1}, {"(app (app " + numeral(2) + " " + notTerm + ") true)", "o", "", 1}, {"(app (app (app " + numeral(2) + " " + numeral(2) + ") " + notTerm + ") true)", "o", "", -1},
		{"(lam y (app (lam x y) (lam z (lam u z))))", "(> o o)", "", -1}, {"(lam y (app (lam x y) (lam z (lam u z))))", "(> a a)", "a1", 0}, {"(lam p (app (lam x (fst p)) p))", "(> (* o (* o (* o o))) o)", "", -1}, {"(lam p (fst p))", "(> (* o (* o (* o o))) o)", "", -1}, {"(lam p (fst p))", "(> (* o (* o a)) o)", "a3", 4032},
	} {
		checkByHand(t, c)
	}
	// Types of parts may have more than TypeMax atoms, but no more than 400.
	for leaves := 1; leaves <= 80; leaves++ {
		row := around(leaves-1, "(pair y ", "y", ")")
		for form, atoms := range map[string]int{
			"(pair x x)": 6*leaves - 1, "(pair x (pair x y))": 6*leaves + 1, "(pair x (pair x (pair y y)))": 6*leaves + 3, "(pair y x)": 4*leaves + 1,
		} {
			want := 0
			if atoms > 400 {
				want = -1
			}
			s := fmt.Sprintf("(lam y (snd (pair (app (lam x %s) %s) y)))", form, row)
			checkByHand(t, handCase{s, "(> a a)", "a1", want})
			if known := checkMean(t, read(s), "(> a a)", modelOf("a1")); known != (want == 0) {
				t.Errorf("the test has %v for a part of %d atoms", known, atoms)
			}
		}
	}
	for pairs := 1; pairs <= 48; pairs++ {
		s := "(lam y (snd (pair " + around(pairs, "(app (lam x (pair x x)) ", "y", ")") + " y)))"
		one, two := -1, -1
		if pairs <= 7 {
			one = 0
		}
		if pairs == 1 {
			two = 2
		}
		checkByHand(t, handCase{s, "(> a a)", "a1", one})
		checkByHand(t, handCase{s, "(> a a)", "a2", two})
	}
}

func TestTermsThatMeanNothing(t *testing.T) {
	for _, c := range []handCase{
		// Open terms.
		{s: "x", kind: "o"}, {s: "x", kind: "a"}, {s: "(lam x y)", kind: "(> o o)"}, {s: "(app (lam x x) x)", kind: "o"}, {s: "(fst (pair true x))", kind: "o"}, {s: "(let x y true)", kind: "o"}, {s: "(if true true x)", kind: "o"}, {s: "(let x x x)", kind: "o"},
		// Terms without a type, or with others.
		{s: "(lam x (app x x))", kind: "(> a a)"}, {s: omegaTerm, kind: "o"}, {s: "(app true true)", kind: "o"}, {s: "(fst (pair true (lam x (app x x))))", kind: "o"}, {s: "true", kind: "a"}, {s: "true", kind: "(* o o)"}, {s: "(lam x x)", kind: "o"}, {s: "(lam x x)", kind: "a"}, {s: "(lam x x)", kind: "(> a b)"}, {s: "(lam x x)", kind: "(> o a)"}, {s: "(lam x x)", kind: "(> a o)"}, {s: "(lam x x)", kind: "(* a a)"}, {s: "(lam x (lam y x))", kind: "(> a (> b b))"}, {s: "(pair true true)", kind: "(* a a)"}, {s: "(lam x true)", kind: "(> a a)"}, {s: notTerm, kind: "(> a a)"},
		// Variables that the model does not have.
		{s: "(lam x x)", kind: "(> c c)"}, {s: "(lam x true)", kind: "(> z o)"}, {s: "(lam x (lam y x))", kind: "(> a (> c a))"}, {s: "(fst (pair (lam x x) true))", kind: "(> p p)"},
	} {
		c.model, c.want = "a2 b2", -1
		checkByHand(t, c)
		c.model = "b1 a1"
		checkByHand(t, c)
	}
	for _, s := range badTerms() {
		for _, kind := range []string{"o", "a", "(> a a)", s} {
			checkNoMean(t, s, kind, twoLists{[]string{"a"}, []int{1}})
		}
	}
}

func TestTermsThatMeanTheSame(t *testing.T) {
	for _, c := range []struct {
		a     string
		b     string
		kind  string
		model string
		same  bool
	}{
		{"true", "true", "o", "", true}, {"true", "false", "o", "", false}, {"(lam x x)", "(lam x (if x true false))", "(> o o)", "", true}, {"(lam x x)", notTerm, "(> o o)", "", false}, {"(lam p (pair (fst p) (snd p)))", "(lam p p)", "(> (* a a) (* a a))", "a2", true}, {"(lam p (pair (snd p) (fst p)))", "(lam p p)", "(> (* a a) (* a a))", "a2", false}, {"(lam f (lam x (app f x)))", "(lam f f)", "(> (> a o) (> a o))", "a2", true},
		// Numerals that differ, but not in few elements, and all in one.
		{numeral(1), numeral(3), "(> (> a a) (> a a))", "a2", true}, {numeral(2), numeral(4), "(> (> a a) (> a a))", "a2", true}, {numeral(1), numeral(2), "(> (> a a) (> a a))", "a2", false}, {numeral(0), numeral(2), "(> (> a a) (> a a))", "a2", false}, {numeral(0), numeral(1), "(> (> a a) (> a a))", "a1", true}, {"(lam x (lam y x))", "(lam x (lam y y))", "(> a (> a a))", "a2", false}, {"(lam x (lam y x))", "(lam x (lam y y))", "(> a (> a a))", "a1", true},
		// Of one of both the type is another one, or there is no meaning.
		{"true", "(lam x x)", "o", "", false}, {"(lam x x)", "(lam x true)", "(> a a)", "a1", false}, {"(lam x x)", "x", "(> a a)", "a1", false}, {"true", "(app (lam x true) (lam y (lam z y)))", "o", "", false}, {"(lam x x)", "(lam x x)", "(> a a)", "b1", false}, {"(lam x x)", "(lam x x)", "(> a a)", "", false}, {"", "", "o", "", false}, {"true", "true", "", "", false},
	} {
		m := modelOf(c.model)
		for _, pair := range [][2]string{{c.a, c.b}, {c.b, c.a}} {
			if same := impl.MeanSame(pair[0], pair[1], c.kind, m.names, m.sizes); same != c.same {
				t.Errorf("MeanSame(%q, %q, %q, %s) is %v", pair[0], pair[1], c.kind, m, same)
			}
		}
	}
}

// Terms in which whole tables of all functions, or what parts mean for all names around, would take too long.
func TestMeaningsOfTermsThatAreDeep(t *testing.T) {
	nested := func(times int, front string, middle string, behind string) string {
		s := middle
		for i := times - 1; i >= 0; i-- {
			n := fmt.Sprint(i)
			s = strings.ReplaceAll(front, "#", n) + s + strings.ReplaceAll(behind, "#", n)
		}
		return s
	}
	for _, c := range []handCase{
		{around(74, "(app (lam x ", "x", ") true)"), "o", "", 1}, {"(lam x " + around(74, "(app (lam x ", "x", ") x)") + ")", "(> a a)", "a3", 21}, {nested(74, "(app (lam x# ", "true", ") false)"), "o", "", 1}, {nested(42, "(app (lam x# ", "x0", ") (if true true false))"), "o", "", 1}, {around(74, "(app (lam x x) ", "true", ")"), "o", "", 1}, {around(99, "(fst (pair ", "true", " true))"), "o", "", 1}, {around(98, "(if true ", "false", " true)"), "o", "", 0},
		{nested(30, "(app (app (lam x# (lam y# ", "x7", ")) true) false)"), "o", "", 1}, {nested(27, "(app (app (lam x# (lam y# (if x# ", "y3", " y#))) true) false)"), "o", "", 0}, {nested(36, "(app (lam f# (app f# true)) (lam x# ", "true", "))"), "o", "", 1}, {nested(14, "(app (lam f# (if (app f# true) (app f# false) false)) (lam x# ", "true", "))"), "o", "", 1}, {nested(14, "(app (lam f# (if (app f# true) (app f# false) false)) (lam x# ", "(if x0 x13 true)", "))"), "o", "", 0},
		// All names around are used, or one of many elements.
		{"(lam p (app (lam x (fst (fst p))) " + around(70, "(if true ", "true", " false)") + "))", "(> (* (* o o) a) o)", "a3", 4032},
		{nested(40, "(app (lam x# ", nested(40, "(if x# ", "true", " false)"), ") true)"), "o", "", 1}, {nested(40, "(app (lam x# ", nested(40, "(if x# ", "false", " true)"), ") true)"), "o", "", 0}, {nested(18, "(app (lam f# (app f# true)) (lam x# ", nested(18, "(if x# ", "true", " false)"), "))"), "o", "", 1},
		{"(lam y " + nested(42, "(app (lam x# ", "(pair x3 x29)", ") (if true y y))") + ")", "(> a (* a a))", "a3", 4*9 + 8*81},
	} {
		if n := impl.TermSize(c.s); n < 180 {
			t.Fatalf("the test has a term of %d atoms", n)
		}
		checkByHand(t, c)
	}
}
