package tests

import (
	"slices"
	"testing"

	"loop.example/parametric/impl"
)

const numeralType = "(> (> a a) (> a a))"

// tellNumerals calls a function for the numbers that have a numeral.
func tellNumerals(t *testing.T, most int, check func(n int, s string)) {
	t.Helper()
	held := 0
	for n := -3; n <= 40; n++ {
		s, ok := impl.Numeral(n)
		if ok != (n >= 0 && n <= 30) {
			t.Errorf("Numeral(%d) returns %q, %v", n, s, ok)
		}
		if ok && n <= most {
			held++
			check(n, s)
		}
	}
	checkCount(t, "Numeral succeeds", held, most+1)
}

func TestPromise76(t *testing.T) {
	tellNumerals(t, 30, func(n int, s string) {
		checkRead(t, s, n)
		if !impl.NormalIs(s) || !impl.InferHas(s, numeralType) {
			t.Errorf("the numeral %q is normal: %v, and has the type: %v", s, impl.NormalIs(s), impl.InferHas(s, numeralType))
		}
		checkRead(t, use(t, "succ", s), calculated(n+1))
	})
}

func TestPromise77(t *testing.T) {
	two := use(t, "two")
	tellNumerals(t, 5, func(n int, s string) {
		checkRead(t, use(t, "add", s, two), n+2)
		checkRead(t, use(t, "add", two, s), n+2)
		checkRead(t, use(t, "mul", s, two), 2*n)
		checkRead(t, use(t, "mul", two, s), 2*n)
		if even := use(t, "even", s); impl.TermEqual(even, "true") != (n%2 == 0) || impl.TermEqual(even, "false") != (n%2 == 1) {
			t.Errorf("%q is true: %v, and false: %v", even, impl.TermEqual(even, "true"), impl.TermEqual(even, "false"))
		}
	})
}

func TestPromise78(t *testing.T) {
	names, sizes := []string{"a"}, []int{2}
	exchanges, _ := impl.SetFun("(> a a)", names, sizes, exchange)
	equal, _ := impl.SetFun("(> a a)", names, sizes, []int{0, 1})
	tellNumerals(t, 5, func(n int, s string) {
		want := []int{equal, exchanges}[n%2]
		if k, ok := impl.MeanApp(s, numeralType, names, sizes, exchanges); !ok || k != want {
			t.Errorf("the numeral %q has %d, %v for the function that exchanges both numbers, and not %d", s, k, ok, want)
		}
	})
}

func TestPromise79(t *testing.T) {
	held, equal := 0, 0
	for _, x := range append(nearNumerals(79), reducedTerms(79)[:3000]...) {
		s := x.String()
		n, ok := impl.NumeralRead(s)
		if !ok {
			continue
		}
		held++
		normal, _ := impl.NormalOf(s)
		numeral, _ := impl.Numeral(n)
		if n == 1 && normal == "(lam x0 x0)" {
			equal++
			numeral = normal
		}
		if n < 0 || n > 30 || normal != numeral {
			t.Errorf("NumeralRead(%q) returns %d, and NormalOf %q", short(s), n, short(normal))
		}
		if next, ok := impl.NumeralRead("(app " + succTerm + " " + s + ")"); ok && next != n+1 {
			t.Errorf("NumeralRead(%q) returns %d, and of succ of it %d", short(s), n, next)
		}
	}
	checkCount(t, "NumeralRead succeeds", held, 500)
	checkCount(t, "it is the term of equal functions", equal, 50)
}

func TestPromise80(t *testing.T) {
	for _, c := range libraryOfDocument() {
		s, ok := impl.Library(c.name)
		free, _ := impl.TermFree(s)
		canon, _ := impl.TermCanon(s)
		if _, typed := impl.Infer(s); !ok || len(free) > 0 || canon != s || !impl.NormalIs(s) || !typed {
			t.Errorf("Library(%q) returns %q, %v, with the free names %q, canonically %q, normal: %v, typed: %v", c.name, s, ok, free, canon, impl.NormalIs(s), typed)
		}
	}
}

// within tells whether a relation has just pairs of another one of the same sizes.
func within(r impl.Rel, other impl.Rel) bool {
	return r.Left == other.Left && r.Right == other.Right && !slices.ContainsFunc(r.Pairs, func(pair int) bool { return !slices.Contains(other.Pairs, pair) })
}

func TestPromise81(t *testing.T) {
	held, not, sizes := 0, 0, 0
	modulePairs(81, 6, func(c paramCase, x int, y int) {
		s := c.kind.String()
		r, ok := impl.ModuleRelation(s, c.m, c.n, x, y)
		if impl.ModuleAlike(s, c.m, c.n, x, y) != ok || impl.ModuleAlike(s, c.n, c.m, y, x) != ok {
			t.Errorf("ModuleRelation(%q, %d, %d, %d, %d) returns %s, %v, and ModuleAlike is %v and exchanged %v", s, c.m, c.n, x, y, relText(r), ok, !ok, !ok)
		}
		if !ok {
			not++
			return
		}
		held++
		if c.m != c.n && len(r.Pairs) > 0 {
			sizes++
		}
		if !impl.Related(s, []string{"a"}, []impl.Rel{r}, x, y) {
			t.Errorf("ModuleRelation(%q, %d, %d, %d, %d) returns %s, which does not relate them", s, c.m, c.n, x, y, relText(r))
		}
		if best, ok := impl.ModuleBest(s, c.m, c.n, x, y); !ok || !within(r, best) {
			t.Errorf("ModuleRelation(%q, %d, %d, %d, %d) returns %s, and ModuleBest %s, %v", s, c.m, c.n, x, y, relText(r), relText(best), ok)
		}
	})
	checkCount(t, "ModuleRelation succeeds", held, 2000)
	checkCount(t, "ModuleRelation fails", not, 1500)
	checkCount(t, "with pairs between different sizes", sizes, 500)
}

func TestPromise82(t *testing.T) {
	held, parametric := 0, 0
	modulePairs(82, 6, func(c paramCase, x int, y int) {
		s := c.kind.String()
		r, ok := impl.ModuleRelation(s, c.m, c.n, x, y)
		together := impl.ParamPair(s, c.m, c.n, x, y)
		if together && (!ok || !sameRel(r, noPairs(c.m, c.n))) {
			t.Errorf("ModuleRelation(%q, %d, %d, %d, %d) returns %s, %v, and both are parametric together", s, c.m, c.n, x, y, relText(r), ok)
		}
		if together {
			parametric++
		}
		if ok && (!impl.ModuleAlike(s, c.m, c.m, x, x) || !impl.ModuleAlike(s, c.n, c.n, y, y)) {
			t.Errorf("ModuleAlike(%q) holds for %d, %d, %d, %d, and not for each one and itself", s, c.m, c.n, x, y)
		}
		if ok {
			held++
		}
	})
	checkCount(t, "ModuleAlike holds", held, 2000)
	checkCount(t, "both are parametric together", parametric, 400)
}

func TestPromise83(t *testing.T) {
	held, told := 0, 0
	modulePairs(83, 8, func(c paramCase, x int, y int) {
		s := c.kind.String()
		alike := impl.ModuleAlike(s, c.m, c.n, x, y)
		texts, _ := impl.TermsOf("(> "+s+" o)", 2)
		for _, client := range texts[:min(len(texts), 8)] {
			_, left := impl.ModuleRun(s, client, c.m, x)
			_, right := impl.ModuleRun(s, client, c.n, y)
			tells := impl.ModuleTold(s, client, c.m, c.n, x, y)
			if alike && left && right {
				held++
			}
			if tells {
				told++
			}
			if alike && tells {
				t.Errorf("ModuleTold(%q, %q, %d, %d, %d, %d) holds for modules that are alike", s, client, c.m, c.n, x, y)
			}
		}
	})
	checkCount(t, "clients run for modules that are alike", held, 1500)
	checkCount(t, "clients tell others apart", told, 200)
}

func TestPromise84(t *testing.T) {
	d := dice(84)
	held, reduced, not := 0, 0, 0
	modulePairs(84, 4, func(c paramCase, x int, _ int) {
		s, client := c.kind.String(), d.client(c.kind)
		if client == "" {
			return
		}
		truth, ok := impl.ModuleRun(s, client, c.m, x)
		element, known := impl.MeanApp(client, "(> "+s+" o)", []string{"a"}, []int{c.m}, x)
		if ok != known || truth != element || truth < 0 || truth > 1 {
			t.Errorf("ModuleRun(%q, %q, %d, %d) returns %d, %v, and MeanApp %d, %v", s, client, c.m, x, truth, ok, element, known)
		}
		if !ok {
			not++
			return
		}
		held++
		normal, isNormal := impl.NormalOf(client)
		if other, runs := impl.ModuleRun(s, normal, c.m, x); isNormal && runs && other != truth {
			t.Errorf("ModuleRun(%q, %q, %d, %d) returns %d, and of %q %d", s, client, c.m, x, truth, normal, other)
		}
		if isNormal && !impl.TermAlike(normal, client) {
			reduced++
		}
	})
	checkCount(t, "ModuleRun succeeds", held, 800)
	checkCount(t, "the client is not normal", reduced, 200)
	checkCount(t, "ModuleRun fails", not, 300)
}

func TestPromise85(t *testing.T) {
	d := dice(85)
	held, sizes, not := 0, 0, 0
	modulePairs(85, 8, func(c paramCase, x int, y int) {
		s, client := c.kind.String(), d.client(c.kind)
		if client == "" {
			return
		}
		holds := impl.ModuleTold(s, client, c.m, c.n, x, y)
		if impl.ModuleTold(s, client, c.n, c.m, y, x) != holds {
			t.Errorf("ModuleTold(%q, %q, %d, %d, %d, %d) is %v, and not for both exchanged", s, client, c.m, c.n, x, y, holds)
		}
		left, ok := impl.ModuleRun(s, client, c.m, x)
		right, both := impl.ModuleRun(s, client, c.n, y)
		if holds != (ok && both && left != right) {
			t.Errorf("ModuleTold(%q, %q, %d, %d, %d, %d) is %v, and ModuleRun returns %d, %v and %d, %v", s, client, c.m, c.n, x, y, holds, left, ok, right, both)
		}
		if !holds {
			not++
			return
		}
		held++
		if c.m != c.n {
			sizes++
		}
		if impl.ModuleAlike(s, c.m, c.n, x, y) {
			t.Errorf("ModuleTold(%q, %q, %d, %d, %d, %d) holds for modules that are alike", s, client, c.m, c.n, x, y)
		}
	})
	checkCount(t, "ModuleTold holds", held, 100)
	checkCount(t, "the sizes differ", sizes, 40)
	checkCount(t, "ModuleTold does not hold", not, 1000)
}

// someAlike tells whether a pair of numbers is of some relation that makes two modules alike.
func someAlike(t *testing.T, c paramCase, x int, y int, pair int) bool {
	t.Helper()
	for _, r := range relationsBetween(c.m, c.n) {
		if slices.Contains(r.Pairs, pair) && impl.Related(c.kind.String(), []string{"a"}, []impl.Rel{r}, x, y) {
			return true
		}
	}
	return false
}

func TestPromise86(t *testing.T) {
	held, not, more, some := 0, 0, 0, 0
	modulePairs(86, 4, func(c paramCase, x int, y int) {
		s := c.kind.String()
		best, ok := impl.ModuleBest(s, c.m, c.n, x, y)
		r, least := impl.ModuleRelation(s, c.m, c.n, x, y)
		if ok != least || ok && !within(r, best) {
			t.Errorf("ModuleBest(%q, %d, %d, %d, %d) returns %s, %v, and ModuleRelation %s, %v", s, c.m, c.n, x, y, relText(best), ok, relText(r), least)
		}
		if !ok {
			not++
			return
		}
		held++
		for pair := range c.m * c.n {
			if someAlike(t, c, x, y, pair) != slices.Contains(best.Pairs, pair) {
				t.Errorf("ModuleBest(%q, %d, %d, %d, %d) returns %s, but not as Related tells of %d", s, c.m, c.n, x, y, relText(best), pair)
			}
		}
		if len(best.Pairs) > len(r.Pairs) {
			more++
		}
		if len(best.Pairs) < c.m*c.n {
			some++
		}
	})
	checkCount(t, "ModuleBest succeeds", held, 1500)
	checkCount(t, "ModuleBest fails", not, 1000)
	checkCount(t, "it has more pairs", more, 800)
	checkCount(t, "it has not all pairs", some, 300)
}
