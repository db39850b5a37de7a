package tests

import (
	"fmt"
	"math"
	"slices"
	"testing"

	"loop.example/parametric/impl"
)

// alike returns the relations that make two modules alike, in the order of their numbers. The modules may be in no range.
func (p *plainParam) alike(x int, y int) []impl.Rel {
	all := []impl.Rel{}
	if x < 0 || x >= p.left || y < 0 || y >= p.right {
		return all
	}
	for _, l := range p.liftings {
		if l.related(p.kind, x, y) {
			all = append(all, l.rels["a"])
		}
	}
	return all
}

// leastOf returns the first one of relations, or the zero value if there is none.
func leastOf(rels []impl.Rel) impl.Rel {
	if len(rels) == 0 {
		return impl.Rel{}
	}
	return rels[0]
}

// bestOf returns the relation of all numbers that are related by some of relations, or the zero value if there is none.
func bestOf(rels []impl.Rel) impl.Rel {
	best := impl.Rel{}
	for _, r := range rels {
		best.Left, best.Right = r.Left, r.Right
		best.Pairs = append(best.Pairs, r.Pairs...)
	}
	slices.Sort(best.Pairs)
	best.Pairs = slices.Compact(best.Pairs)
	return best
}

// plainNumber returns the number that a term is read as, or -1.
func plainNumber(x oneTerm) int {
	normal := x.normalText()
	if normal == "(lam x0 (lam x1 x1))" {
		return 0
	}
	if normal == "(lam x0 x0)" {
		return 1
	}
	return slices.Index(plainNumerals(), normal)
}

// plainNumerals returns the canonical numerals of all numbers.
func plainNumerals() []string {
	all := []string{}
	for n := range 31 {
		all = append(all, "(lam x0 (lam x1 "+around(n, "(app x0 ", "x1", ")")+"))")
	}
	return all
}

// notNumerals returns numbers that have no numeral.
func notNumerals() []int {
	return []int{-1, 31, -2, 32, 33, 60, 100, 299, 300, 1 << 32, 1<<32 + 2, -1 << 32, math.MinInt, math.MaxInt}
}

const succTerm = "(lam n (lam f (lam x (app f (app (app n f) x)))))"

// A nameText is a name with a text.
type nameText struct {
	name string
	text string
}

// libraryOfDocument returns the names of the library with the terms as the document writes them.
func libraryOfDocument() []nameText {
	return []nameText{
		{"zero", "(lam x0 (lam x1 x1))"}, {"one", "(lam x0 (lam x1 (app x0 x1)))"}, {"two", "(lam x0 (lam x1 (app x0 (app x0 x1))))"},
		{"succ", succTerm}, {"add", "(lam m (lam n (lam f (lam x (app (app m f) (app (app n f) x))))))"},
		{"mul", "(lam m (lam n (lam f (app m (app n f)))))"}, {"exp", "(lam m (lam n (app n m)))"}, {"even", "(lam n (app (app n (lam b (if b false true))) true))"},
		{"not", "(lam b (if b false true))"}, {"and", "(lam b (lam c (if b c false)))"}, {"swap", "(lam p (pair (snd p) (fst p)))"}, {"compose", "(lam f (lam g (lam x (app f (app g x)))))"},
	}
}

// use returns a term of the library applied to others.
func use(t *testing.T, name string, arguments ...string) string {
	t.Helper()
	s, ok := impl.Library(name)
	if !ok {
		t.Fatalf("Library(%q) fails", name)
	}
	for _, argument := range arguments {
		s = "(app " + s + " " + argument + ")"
	}
	return s
}

func checkNumeral(t *testing.T, n int, want string) {
	t.Helper()
	got, ok := impl.Numeral(n)
	checkText(t, fmt.Sprintf("Numeral(%d)", n), got, ok, want)
}

// checkRead compares with the number that is wanted, or -1 for none.
func checkRead(t *testing.T, s string, want int) {
	t.Helper()
	got, ok := impl.NumeralRead(s)
	checkElement(t, fmt.Sprintf("NumeralRead(%q)", short(s)), got, ok, want)
}

// checkRelations compares all that is told of the relations that make two modules alike. Zero values stand for failures.
func checkRelations(t *testing.T, s string, m int, n int, x int, y int, least impl.Rel, best impl.Rel) {
	t.Helper()
	call := fmt.Sprintf("(%q, %d, %d, %d, %d)", short(s), m, n, x, y)
	got, ok := impl.ModuleRelation(s, m, n, x, y)
	checkRel(t, "ModuleRelation"+call, got, ok, least)
	got, ok = impl.ModuleBest(s, m, n, x, y)
	checkRel(t, "ModuleBest"+call, got, ok, best)
	if impl.ModuleAlike(s, m, n, x, y) != (least.Left != 0) {
		t.Errorf("ModuleAlike%s is %v", call, least.Left == 0)
	}
}

func checkNoRelations(t *testing.T, s string, m int, n int, x int, y int) {
	t.Helper()
	checkRelations(t, s, m, n, x, y, impl.Rel{}, impl.Rel{})
}

// checkNoModules checks that an interface has no modules that are alike for two sizes.
func checkNoModules(t *testing.T, s string, m int, n int) {
	t.Helper()
	for _, x := range []int{0, 1, 2, 3, -1, 10} {
		checkNoRelations(t, s, m, n, x, x)
		checkNoRelations(t, s, m, n, 0, x)
		checkNoRelations(t, s, m, n, x, 0)
	}
}

// checkRun compares with the truth value that is wanted, or -1 for none.
func checkRun(t *testing.T, s string, client string, n int, x int, want int) {
	t.Helper()
	got, ok := impl.ModuleRun(s, client, n, x)
	checkElement(t, fmt.Sprintf("ModuleRun(%q, %q, %d, %d)", short(s), short(client), n, x), got, ok, want)
}

func checkTold(t *testing.T, s string, client string, m int, n int, x int, y int, want bool) {
	t.Helper()
	if impl.ModuleTold(s, client, m, n, x, y) != want {
		t.Errorf("ModuleTold(%q, %q, %d, %d, %d, %d) is %v", short(s), short(client), m, n, x, y, !want)
	}
}

// checkNoRun checks that a client runs for no module of an interface for a size, and so tells it apart from no other one.
func checkNoRun(t *testing.T, s string, client string, n int) {
	t.Helper()
	for _, x := range someNumbers() {
		checkRun(t, s, client, n, x, -1)
		for m := 1; m <= 3; m++ {
			for _, y := range []int{0, 1, x} {
				checkTold(t, s, client, m, n, y, x, false)
				checkTold(t, s, client, n, m, x, y, false)
			}
		}
	}
}

// plainRuns returns what a client has for all modules of an interface for a size, and true if its meaning is known. The list is empty if it takes too long to find.
func plainRuns(kind oneType, client string, n int) ([]int, bool) {
	clients := node(">", kind, leaf("o"))
	element, known := plainMean(read(client), clients.String(), sizedModel(n))
	if !known || element < 0 {
		return nil, known
	}
	return sizedModel(n).set(clients).list[element], true
}

// interfaces returns types of modules: what is hidden with what can be done with it.
func interfaces() []string {
	return []string{
		"(* a (> a o))", "(* a (* (> a a) (> a o)))", "(* a (> a a))", "(* a (> a (* o a)))", "(* a (* o (> a o)))", "(* a (* (> a o) (> a o)))", "(* a (* a (> a o)))",
		"(> a (> a o))", "(* a (> a (> a o)))", "(> o (* a o))", "(* (> o a) (> a o))", "(* a (* (> a (> o a)) (> a o)))", "(> (* a a) o)", "(* a (> (> a o) o))", "(> (> a o) o)", "(> (> a a) o)",
	}
}

// moduleCases returns interfaces with two sizes.
func moduleCases(seed int) []paramCase {
	all := paramCases(seed)
	for _, s := range interfaces() {
		for m := 1; m <= 3; m++ {
			for n := 1; n <= 3; n++ {
				all = append(all, paramCase{readType(s), m, n})
			}
		}
	}
	return all
}

// modulePairs calls a function for interfaces with two sizes and modules for both.
func modulePairs(seed int, times int, check func(c paramCase, x int, y int)) {
	d := dice(seed)
	for _, c := range moduleCases(seed) {
		left, right := sizedModel(c.m).count(c.kind), sizedModel(c.n).count(c.kind)
		if left < 0 || right < 0 {
			continue
		}
		for range times {
			x, y := d.below(left), d.below(right)
			if d.below(3) == 0 {
				y = min(x, right-1)
			}
			check(c, x, y)
		}
	}
}

// client returns a client of an interface, or "" if none is found.
func (d *dice) client(kind oneType) string {
	texts, _ := impl.TermsOf(node(">", kind, leaf("o")).String(), 1+d.below(3))
	if len(texts) == 0 {
		return ""
	}
	x, y := texts[d.below(len(texts))], texts[d.below(len(texts))]
	if len(texts) > 2 {
		// The first ones look at nothing.
		x = texts[2+d.below(len(texts)-2)]
	}
	switch d.below(6) {
	case 0:
		return "(lam m (app " + x + " m))"
	case 1:
		return "(app (lam z z) " + x + ")"
	case 2:
		return "(let i (lam z z) (app i " + x + "))"
	case 3:
		return "(lam m (if (app " + x + " m) (app " + y + " m) (if (app " + y + " m) false true)))"
	}
	return x
}
