package tests

import (
	"fmt"
	"math"
	"slices"
	"strings"
	"testing"

	"loop.example/parametric/impl"
)

// A plainParam tells which elements of a type are parametric, by all relations between two sizes, each one lifted as the tests do it.
type plainParam struct {
	kind     oneType
	left     int // the count of the type on the left side, or -1
	right    int
	liftings []*plainLifting
}

func paramBetween(kind oneType, m int, n int) *plainParam {
	left, right := modelOf(fmt.Sprint("a", m)), modelOf(fmt.Sprint("a", n))
	p := &plainParam{kind: kind, left: left.count(kind), right: right.count(kind)}
	for _, r := range relationsBetween(m, n) {
		p.liftings = append(p.liftings, &plainLifting{left, right, map[string]impl.Rel{"a": r}, map[string]bool{}})
	}
	return p
}

// known tells whether the counts on both sides are known.
func (p *plainParam) known() bool {
	return p.left >= 0 && p.right >= 0
}

// pair tells whether two elements are parametric together. They may be in no range.
func (p *plainParam) pair(x int, y int) bool {
	if x < 0 || x >= p.left || y < 0 || y >= p.right {
		return false
	}
	return !slices.ContainsFunc(p.liftings, func(l *plainLifting) bool { return !l.related(p.kind, x, y) })
}

// list returns the elements that are parametric, if both sizes are the same.
func (p *plainParam) list() []int {
	list := []int{}
	for x := range p.left {
		if p.pair(x, x) {
			list = append(list, x)
		}
	}
	return list
}

// plainTerms returns the terms of a type up to a depth, made with a list of names, as the document tells them.
func plainTerms(kind oneType, names []kindName, depth int) []oneTerm {
	all := []oneTerm{}
	switch {
	case kind.atom == ">":
		name := fmt.Sprint("n", len(names))
		for _, x := range plainTerms(kind.parts[1], append(slices.Clone(names), kindName{name, kind.parts[0]}), depth) {
			all = append(all, lam(name, x))
		}
		return all
	case kind.atom == "*":
		for _, x := range plainTerms(kind.parts[0], names, depth) {
			for _, y := range plainTerms(kind.parts[1], names, depth) {
				all = append(all, made("pair", x, y))
			}
		}
	case depth > 0:
		if kind.atom == "o" {
			all = append(all, word("true"), word("false"))
		}
		for _, n := range names {
			all = append(all, plainPaths(word(n.name), n.kind, kind, names, depth)...)
		}
	}
	return all[:min(len(all), 60)]
}

// plainPaths returns the first terms of a type that has no parts to which a path with a type leads.
func plainPaths(path oneTerm, at oneType, end oneType, names []kindName, depth int) []oneTerm {
	switch at.atom {
	case end.atom:
		return []oneTerm{path}
	case "*":
		first := plainPaths(made("fst", path), at.parts[0], end, names, depth)
		return append(first, plainPaths(made("snd", path), at.parts[1], end, names, depth)...)
	case ">":
		all := []oneTerm{}
		for _, x := range plainTerms(at.parts[0], names, depth-1) {
			if len(all) < 60 {
				all = append(all, plainPaths(made("app", path, x), at.parts[1], end, names, depth)...)
			}
		}
		return all
	}
	return nil
}

// plainTexts returns what TermsOf is to return.
func plainTexts(kind oneType, depth int) []string {
	texts := []string{}
	for _, x := range plainTerms(kind, nil, depth) {
		texts = append(texts, x.canon().String())
	}
	return texts
}

// depthOf returns the least depth up to which a term is found.
func (t oneTerm) depthOf() int {
	depth := 0
	if t.head == "app" {
		depth = 1 + t.kids[1].depthOf()
		return max(depth, t.kids[0].depthOf())
	}
	for _, kid := range t.kids {
		depth = max(depth, kid.depthOf())
	}
	if len(t.kids) == 0 {
		return 1
	}
	return depth
}

// pathAtoms returns how many atoms of a term are app, fst and snd.
func pathAtoms(s string) int {
	return strings.Count(s, "(app ") + strings.Count(s, "(fst ") + strings.Count(s, "(snd ")
}

// ascending tells whether each number is greater than the one before it.
func ascending(list []int) bool {
	for i := range list {
		if i > 0 && list[i-1] >= list[i] {
			return false
		}
	}
	return true
}

func checkNumbers(t *testing.T, call string, got []int, ok bool, want []int, wantOk bool) {
	t.Helper()
	if ok != wantOk || !slices.Equal(got, want) {
		t.Errorf("%s returns %d, %v and not %d, %v", short(call), got, ok, want, wantOk)
	}
}

func checkParamList(t *testing.T, s string, n int, want []int, wantOk bool) {
	t.Helper()
	list, ok := impl.ParamList(s, n)
	checkNumbers(t, fmt.Sprintf("ParamList(%q, %d)", s, n), list, ok, want, wantOk)
	count := -1
	if wantOk {
		count = len(want)
	}
	if got := impl.ParamCount(s, n); got != count {
		t.Errorf("ParamCount(%q, %d) is %d and not %d", short(s), n, got, count)
	}
}

// checkNoList checks that a type has no list for a size, and that nothing is reached.
func checkNoList(t *testing.T, s string, n int) {
	t.Helper()
	checkParamList(t, s, n, nil, false)
	for depth := -1; depth <= 5; depth++ {
		checkReached(t, s, n, depth, nil, false)
	}
}

func checkReached(t *testing.T, s string, n int, depth int, want []int, wantOk bool) {
	t.Helper()
	reached, ok := impl.ParamReached(s, n, depth)
	checkNumbers(t, fmt.Sprintf("ParamReached(%q, %d, %d)", s, n, depth), reached, ok, want, wantOk)
}

func checkParamPair(t *testing.T, s string, m int, n int, x int, y int, want bool) {
	t.Helper()
	if impl.ParamPair(s, m, n, x, y) != want {
		t.Errorf("ParamPair(%q, %d, %d, %d, %d) is %v", short(s), m, n, x, y, !want)
	}
	if m == n && x == y && impl.ParamIs(s, n, x) != want {
		t.Errorf("ParamIs(%q, %d, %d) is %v", short(s), n, x, !want)
	}
}

// checkNoParamPair checks that no elements of a type are parametric together for two sizes.
func checkNoParamPair(t *testing.T, s string, m int, n int) {
	t.Helper()
	for _, x := range []int{0, 1, 2, 3, -1, 10} {
		checkParamPair(t, s, m, n, x, x, false)
		checkParamPair(t, s, m, n, 0, x, false)
		checkParamPair(t, s, m, n, x, 0, false)
	}
}

// checkNoTerms checks that TermsOf fails.
func checkNoTerms(t *testing.T, s string, depth int) {
	t.Helper()
	if texts, ok := impl.TermsOf(s, depth); ok || len(texts) > 0 {
		t.Errorf("TermsOf(%q, %d) returns %q, %v", short(s), depth, texts, ok)
	}
}

// checkTerms compares TermsOf with a list of terms.
func checkTerms(t *testing.T, s string, depth int, want []string) {
	t.Helper()
	texts, ok := impl.TermsOf(s, depth)
	if !ok || !slices.Equal(texts, want) {
		t.Errorf("TermsOf(%q, %d) returns %d terms, %v: %s\nand not %d: %s", s, depth, len(texts), ok, short(strings.Join(texts, " | ")), len(want), short(strings.Join(want, " | ")))
	}
}

// badSizes returns numbers that are no sizes of parametric elements. The first one is a size of sets.
func badSizes() []int {
	return []int{impl.SizeMax, 0, -1, -3, 5, 100, 1<<32 + 1, 1<<32 + 2, math.MinInt, math.MaxInt}
}

// badDepths returns numbers that are no depths.
func badDepths() []int {
	return []int{-1, 5, -2, -4, 6, 100, 1 << 32, 1<<32 + 1, math.MinInt, math.MaxInt}
}

// otherTypes returns types that have another variable than a.
func otherTypes() []string {
	return []string{"b", "z", "n", "p", "(> b b)", "(> b o)", "(* o c)", "(> a b)", "(> b a)", "(* a b)", "(> a (> b a))", "(> (> a b) o)", "(* o (* o (* a d)))", "(> (* a a) (> z a))", "(> a (> a (> a (> a b))))"}
}

// A paramCase is a type with two sizes.
type paramCase struct {
	kind oneType
	m    int
	n    int
}

// paramCases returns all types of few atoms with all sizes, and larger ones with such sizes that there are not many relations.
func paramCases(seed int) []paramCase {
	all := []paramCase{}
	for _, kind := range typesUpTo(5, "oa") {
		for m := 1; m <= 3; m++ {
			for n := 1; n <= 3; n++ {
				all = append(all, paramCase{kind, m, n})
			}
		}
	}
	d := dice(seed)
	for range 600 {
		kind := d.typeOf(7+2*d.below(4), []string{"oa", "a", "oaa"}[d.below(3)])
		sizes := [][2]int{{1, 1}, {2, 2}, {2, 2}, {1, 2}, {2, 1}, {1, 3}, {3, 1}}[d.below(7)]
		all = append(all, paramCase{kind, sizes[0], sizes[1]})
	}
	return all
}
