package tests

import (
	"slices"
	"testing"

	"loop.example/parametric/impl"
)

// relatedByAll tells whether Related holds for two elements of a type by each relation with a number.
func relatedByAll(t *testing.T, s string, m int, n int, x int, y int) bool {
	t.Helper()
	for number := range 1 << (m * n) {
		r, ok := impl.RelNumber(m, n, number)
		if !ok {
			t.Fatalf("RelNumber(%d, %d, %d) fails", m, n, number)
		}
		if !impl.Related(s, []string{"a"}, []impl.Rel{r}, x, y) {
			return false
		}
	}
	return true
}

func TestPromise59(t *testing.T) {
	d := dice(59)
	held, not := 0, 0
	check := func(s string, m int, n int, x int, y int) {
		holds := impl.ParamPair(s, m, n, x, y)
		if impl.ParamPair(s, n, m, y, x) != holds {
			t.Errorf("ParamPair(%q, %d, %d, %d, %d) is %v and not the same for both exchanged", s, m, n, x, y, holds)
		}
		if relatedByAll(t, s, m, n, x, y) != holds {
			t.Errorf("ParamPair(%q, %d, %d, %d, %d) is %v and not what Related is by all relations", s, m, n, x, y, holds)
		}
		if holds {
			held++
		} else {
			not++
		}
	}
	for _, c := range paramCases(59) {
		s, p := c.kind.String(), paramBetween(c.kind, c.m, c.n)
		if !p.known() {
			checkNoParamPair(t, s, c.m, c.n)
			continue
		}
		for range 6 {
			check(s, c.m, c.n, d.below(p.left+1), d.below(p.right+1))
		}
		if c.m == c.n && p.left <= 64 {
			for x := range p.left {
				check(s, c.m, c.n, x, x)
			}
		}
	}
	checkCount(t, "ParamPair holds", held, 600)
	checkCount(t, "ParamPair does not hold", not, 3000)
}

// turned returns the relation of each number less than a size to the next one, and of the last one to the first one.
func turned(t *testing.T, size int) impl.Rel {
	t.Helper()
	list := []int{}
	for k := range size {
		list = append(list, (k+1)%size)
	}
	r, ok := impl.RelGraph(list, size)
	if !ok {
		t.Fatalf("RelGraph(%d, %d) fails", list, size)
	}
	return r
}

func TestPromise60(t *testing.T) {
	held, not := 0, 0
	for _, c := range paramCases(60) {
		s, n := c.kind.String(), c.n
		count := max(0, impl.SetCount(s, []string{"a"}, []int{n}))
		for x := -1; x <= min(count, 300); x++ {
			is := impl.ParamIs(s, n, x)
			if impl.ParamPair(s, n, n, x, x) != is {
				t.Errorf("ParamIs(%q, %d, %d) is %v and not what ParamPair is", s, n, x, is)
			}
			if !is {
				not++
				continue
			}
			held++
			if !impl.Related(s, []string{"a"}, []impl.Rel{turned(t, n)}, x, x) {
				t.Errorf("ParamIs(%q, %d, %d) holds, but it is not related to itself by all numbers turned round", s, n, x)
			}
		}
		if impl.ParamIs(s, n, -1) || impl.ParamIs(s, n, count) {
			t.Errorf("ParamIs(%q, %d) holds for no element", s, n)
		}
	}
	checkCount(t, "ParamIs holds", held, 1500)
	checkCount(t, "ParamIs does not hold", not, 10000)
}

func TestPromise61(t *testing.T) {
	held, not, some := 0, 0, 0
	for _, c := range paramCases(61) {
		s := c.kind.String()
		count := impl.SetCount(s, []string{"a"}, []int{c.n})
		list, ok := impl.ParamList(s, c.n)
		if ok != (count >= 0 && count <= 300) {
			t.Errorf("ParamList(%q, %d) returns %v with a count of %d", s, c.n, ok, count)
		}
		if !ok {
			not++
			checkNoList(t, s, c.n)
			continue
		}
		held++
		if !ascending(list) {
			t.Errorf("ParamList(%q, %d) returns %d", s, c.n, list)
		}
		for x := -2; x < count+2; x++ {
			if impl.ParamIs(s, c.n, x) != slices.Contains(list, x) {
				t.Errorf("ParamList(%q, %d) returns %d, but ParamIs of %d is %v", s, c.n, list, x, !slices.Contains(list, x))
			}
		}
		checkParamList(t, s, c.n, list, true)
		if len(list) > 0 && len(list) < count {
			some++
		}
	}
	checkCount(t, "ParamList succeeds", held, 500)
	checkCount(t, "ParamList fails", not, 100)
	checkCount(t, "some are parametric and not all", some, 80)
}

func TestPromise62(t *testing.T) {
	held, without := 0, 0
	for _, c := range paramCases(62) {
		s := c.kind.String()
		count := impl.ParamCount(s, c.n)
		if count < 0 {
			continue
		}
		held++
		for _, pairs := range []string{"(* " + s + " o)", "(* o " + s + ")"} {
			twice := impl.ParamCount(pairs, c.n)
			if all := impl.SetCount(pairs, []string{"a"}, []int{c.n}); all < 0 || all > 300 {
				checkParamList(t, pairs, c.n, nil, false)
			} else if twice != 2*count {
				t.Errorf("ParamCount(%q, %d) is %d, and of the type with o %d", s, c.n, count, twice)
			}
		}
		if !slices.Contains(c.kind.names(), "a") {
			without++
			if all := impl.SetCount(s, nil, nil); all != count {
				t.Errorf("ParamCount(%q, %d) is %d of %d elements", s, c.n, count, all)
			}
		}
	}
	checkCount(t, "ParamCount is known", held, 500)
	checkCount(t, "the type has no variable", without, 60)
}

func TestPromise63(t *testing.T) {
	all, found := typesUpTo(9, "oa"), 0
	for i, kind := range all {
		s, before := kind.String(), 0
		for depth := range 5 {
			texts, ok := impl.TermsOf(s, depth)
			if !ok || len(texts) < before || len(texts) > 60 || depth == 0 && len(texts) > 0 {
				t.Errorf("TermsOf(%q, %d) returns %d terms, %v, and with a depth 1 less %d", s, depth, len(texts), ok, before)
			}
			before = len(texts)
			sorted := slices.Clone(texts)
			slices.Sort(sorted)
			if len(slices.Compact(sorted)) < before {
				t.Errorf("TermsOf(%q, %d) has equal terms: %q", s, depth, texts)
			}
			if depth == i%5 {
				found += before
				checkTermsHave(t, s, texts)
			}
		}
	}
	checkCount(t, "terms are found", found, 15000)
}

// checkTermsHave checks that terms are canonical and normal and have a type.
func checkTermsHave(t *testing.T, s string, texts []string) {
	t.Helper()
	for _, x := range texts {
		if canon, ok := impl.TermCanon(x); !ok || canon != x || !impl.NormalIs(x) || !impl.InferHas(x, s) {
			t.Errorf("the term %q of %q is canonically %q, normal: %v, and has the type: %v", x, s, canon, impl.NormalIs(x), impl.InferHas(x, s))
		}
	}
}

func TestPromise64(t *testing.T) {
	d := dice(64)
	held, several := 0, 0
	for _, kind := range foundTypes(64) {
		s := kind.String()
		m, n := 1+d.below(3), 1+d.below(3)
		if d.below(2) == 0 {
			m, n = min(m, 2), min(n, 2)
		}
		texts, _ := impl.TermsOf(s, 1+d.below(4))
		for range min(4, len(texts)) {
			x := texts[d.below(len(texts))]
			left, known := impl.Mean(x, s, []string{"a"}, []int{m})
			right, both := impl.Mean(x, s, []string{"a"}, []int{n})
			if !known || !both {
				continue
			}
			held++
			if m != n {
				several++
			}
			if !impl.ParamPair(s, m, n, left, right) {
				t.Errorf("%q means %d and %d of %q for the sizes %d and %d, and they are not parametric together", x, left, right, s, m, n)
			}
		}
	}
	checkCount(t, "both meanings are known", held, 800)
	checkCount(t, "the sizes differ", several, 300)
}

func TestPromise65(t *testing.T) {
	held, not, reaches := 0, 0, 0
	for _, kind := range foundTypes(65) {
		s := kind.String()
		for n := 1; n <= 3; n++ {
			list, ok := impl.ParamList(s, n)
			if !ok {
				not++
				checkReached(t, s, n, 2, nil, false)
				continue
			}
			for depth := range 5 {
				held++
				reached, ok := impl.ParamReached(s, n, depth)
				texts, _ := impl.TermsOf(s, depth)
				if !ok || !ascending(reached) || len(reached) > len(texts) || len(texts) > 0 && len(reached) == 0 {
					t.Errorf("ParamReached(%q, %d, %d) returns %d, %v, and there are %d terms", s, n, depth, reached, ok, len(texts))
				}
				for _, x := range reached {
					reaches++
					if !slices.Contains(list, x) {
						t.Errorf("ParamReached(%q, %d, %d) returns %d, and ParamList %d", s, n, depth, reached, list)
					}
				}
			}
		}
	}
	checkCount(t, "ParamReached succeeds", held, 3000)
	checkCount(t, "ParamReached fails", not, 500)
	checkCount(t, "elements are reached", reaches, 5000)
}

func TestPromise66(t *testing.T) {
	if n := impl.ParamCount("(> a a)", 2); n != 1 {
		t.Errorf("ParamCount of (> a a) is %d", n)
	}
	if n := impl.ParamCount("(> a (> a a))", 2); n != 2 {
		t.Errorf("ParamCount of (> a (> a a)) is %d", n)
	}
	list, _ := impl.ParamList("(> a (> a a))", 2)
	checkReached(t, "(> a (> a a))", 2, 1, list, true)
	texts := append(badTypes(), otherTypes()...)
	for _, kind := range typesUpTo(7, "oab") {
		texts = append(texts, kind.String())
	}
	d := dice(66)
	for _, s := range texts {
		for _, n := range []int{1 + d.below(3), d.below(6) - 1, badSizes()[d.below(10)]} {
			count := impl.ParamCount(s, n)
			if list, ok := impl.ParamList(s, n); count < -1 || ok != (count >= 0) || ok && len(list) != count {
				t.Errorf("ParamList(%q, %d) returns %d, %v, and ParamCount is %d", short(s), n, list, ok, count)
			}
		}
	}
}
