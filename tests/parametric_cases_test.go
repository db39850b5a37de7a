package tests

import (
	"math"
	"slices"
	"strings"
	"testing"

	"loop.example/parametric/impl"
)

func TestConstantOfParametricElements(t *testing.T) {
	if impl.FoundMax != 60 {
		t.Errorf("the constant is %d", impl.FoundMax)
	}
}

// Each type has a list for the sizes 1, 2 and 3, or a dash if it has none.
func TestParametricElementsByHand(t *testing.T) {
	for _, c := range [][4]string{
		// The relation without pairs leaves nothing that has an element of a by itself.
		{"a", "", "", ""}, {"(* a o)", "", "", ""}, {"(* o a)", "", "", ""}, {"(> o a)", "", "", ""}, {"(* a a)", "", "", ""}, {"(> (> a a) a)", "", "", "-"}, {"(* (> a a) a)", "", "", ""}, {"(> (> a o) a)", "", "", "-"}, {"(> o (> o (> o a)))", "", "", "-"},
		// Functions of a to a: the first or the second one of two.
		{"(> a a)", "0", "2", "21"}, {"(> a (> a a))", "0", "10 12", "-"}, {"(> (* a a) a)", "0", "10 12", "-"}, {"(> a (* a a))", "0", "12", "-"}, {"(* (> a a) (> a a))", "0", "10", "-"}, {"(> (> o a) a)", "0", "10 12", "-"},
		// The function that exchanges both numbers is related to itself by graphs, and not by all relations.
		{"(* o (> a a))", "0 1", "2 6", "21 48"}, {"(* (> a a) o)", "0 1", "4 5", "42 43"}, {"(> o (> a a))", "0", "10", "-"}, {"(> a (* o a))", "0 1", "4 14", "78 207"},
		// Truth values do not depend on numbers.
		{"(> a o)", "0 1", "0 3", "0 7"}, {"(> a (> a o))", "0 1", "0 15", "-"}, {"(> (* a a) o)", "0 1", "0 15", "-"}, {"(> (> a o) o)", "0 3", "0 15", "0 255"}, {"(> a (* o o))", "0 1 2 3", "0 5 10 15", "0 21 42 63"}, {"(* o (> a o))", "0 1 2 3", "0 3 4 7", "0 7 8 15"},
		// Numerals, and what is of most numbers of three, which no term means.
		{"(> (> a a) (> a a))", "0", "170 228 232", "-"}, {"(> a (> (> a a) a))", "0", "202 232 240", "-"}, {"(> a (> a (> a a)))", "0", "170 204 232 240", "-"}, {"(> (* a (* a a)) a)", "0", "170 204 232 240", "-"},
		// With one element, functions of functions may look at more than a term can.
		{"(> (> a o) (> a o))", "0 1 2 3", "0 27 228 255", "-"}, {"(> (> (> a o) o) o)", "0 1 2 3 4 5 6 7 8 9 10 11 12 13 14 15", "-", "-"},
	} {
		for n := 1; n <= 3; n++ {
			if c[n] == "-" {
				checkParamList(t, c[0], n, nil, false)
			} else {
				checkParamList(t, c[0], n, numbersOf(c[n]), true)
			}
		}
	}
}

// numbersOf reads numbers with spaces between them.
func numbersOf(text string) []int {
	r := relOf("1 1 | " + text)
	return r.Pairs
}

// rangeOf returns all numbers less than a count.
func rangeOf(count int) []int {
	all := []int{}
	for k := range count {
		all = append(all, k)
	}
	return all
}

// In types without the variable all elements are parametric, and together just with themselves, whatever the sizes.
func TestParametricElementsWithoutVariable(t *testing.T) {
	for s, count := range map[string]int{"o": 2, "(* o o)": 4, "(> o o)": 4, "(* o (> o o))": 8, "(> (* o o) o)": 16, "(> o (> o o))": 16, "(> (> o o) o)": 16, "(> o (* o (* o o)))": 64, "(> (> o o) (* o o))": 256, "(* (> o o) (* o (> (* o o) o)))": 128} {
		for m := 1; m <= 3; m++ {
			checkParamList(t, s, m, rangeOf(count), true)
			for n := 1; n <= 3; n++ {
				for x := -1; x <= count; x++ {
					for _, y := range []int{-1, 0, 1, x - 1, x, x + 1, count - 1, count} {
						checkParamPair(t, s, m, n, x, y, x == y && x >= 0 && x < count)
					}
				}
			}
		}
		for _, n := range badSizes() {
			checkNoList(t, s, n)
			for m := 1; m <= 3; m++ {
				checkNoParamPair(t, s, m, n)
				checkNoParamPair(t, s, n, m)
			}
		}
	}
}

func TestParametricPairsByHand(t *testing.T) {
	for _, c := range []struct {
		s          string
		m, n, x, y int
		want       bool
	}{
		{"(> a a)", 1, 2, 0, 2, true}, {"(> a a)", 1, 2, 0, 0, false}, {"(> a a)", 1, 2, 0, 1, false}, {"(> a a)", 1, 2, 0, 3, false}, {"(> a a)", 2, 1, 2, 0, true}, {"(> a a)", 2, 1, 1, 0, false}, {"(> a a)", 2, 3, 2, 21, true}, {"(> a a)", 3, 2, 21, 2, true}, {"(> a a)", 2, 3, 21, 2, false}, {"(> a a)", 1, 3, 0, 21, true}, {"(> a a)", 3, 1, 21, 0, true}, {"(> a a)", 2, 2, 1, 1, false}, {"(> a a)", 2, 2, 2, 2, true},
		// An element on one side goes with several on the other one.
		{"(> a (> a a))", 1, 2, 0, 10, true}, {"(> a (> a a))", 1, 2, 0, 12, true}, {"(> a (> a a))", 1, 2, 0, 6, false}, {"(> a (> a a))", 2, 2, 10, 12, false}, {"(> a (> a a))", 2, 2, 12, 12, true}, {"(> a (> a a))", 2, 1, 12, 0, true},
		{"(> a o)", 1, 2, 0, 0, true}, {"(> a o)", 1, 2, 1, 3, true}, {"(> a o)", 1, 2, 1, 0, false}, {"(> a o)", 1, 2, 0, 1, false}, {"(> a o)", 3, 2, 7, 3, true}, {"(> a o)", 3, 2, 0, 3, false}, {"(> a o)", 2, 3, 3, 7, true},
		{"a", 1, 1, 0, 0, false}, {"a", 2, 3, 1, 1, false}, {"(* a o)", 3, 3, 5, 5, false}, {"o", 2, 3, 1, 1, true}, {"o", 3, 1, 0, 1, false},
		// Elements out of range, on one side or for the other side alone.
		{"(> a a)", 2, 2, -1, -1, false}, {"(> a a)", 2, 2, 4, 4, false}, {"(> a a)", 2, 3, 21, 21, false}, {"(> a a)", 3, 2, 21, 21, false}, {"(> a a)", 1, 2, 0, -2, false}, {"(> a a)", 1, 2, 1, 2, false}, {"(> a a)", 1, 2, -1, 2, false}, {"(> a o)", 1, 2, 3, 1, false}, {"(> a o)", 1, 3, 2, 7, false}, {"(> a a)", 3, 3, 27, 27, false}, {"o", 1, 1, 2, 2, false}, {"o", 1, 1, -1, -1, false}, {"(> a a)", 1, 1, math.MinInt, math.MinInt, false}, {"(> a a)", 1, 1, math.MaxInt, 0, false}, {"o", 1, 1, 1 << 32, 1 << 32, false},
		// Counts above 300 do not matter for pairs.
		{"(> a (> a o))", 3, 3, 511, 511, true}, {"(> a (> a o))", 3, 3, 0, 0, true}, {"(> a (> a o))", 3, 3, 511, 0, false}, {"(> a (> a o))", 3, 3, 510, 510, false}, {"(> a (* a a))", 3, 3, 0 + 4*9 + 8*81, 0 + 4*9 + 8*81, true}, {"(> a (* a a))", 3, 3, 0, 0, false}, {"(* (> a a) (> a a))", 3, 3, 21*27 + 21, 21*27 + 21, true}, {"(> (* a (* o o)) o)", 3, 3, 4095, 4095, true}, {"(> (* a (* o o)) o)", 3, 3, 4094, 4094, false}, {"(> (* a (* o o)) o)", 3, 3, 4096, 4096, false}, {"(> (* a (* o o)) o)", 1, 3, 10, 2730, true}, {"(> (* a (* o o)) o)", 1, 3, 11, 2730, false},
	} {
		checkParamPair(t, c.s, c.m, c.n, c.x, c.y, c.want)
		checkParamPair(t, c.s, c.n, c.m, c.y, c.x, c.want)
	}
}

func TestSizesOfParametricElements(t *testing.T) {
	for _, s := range []string{"o", "a", "(> a a)", "(> a o)", "(* o o)", "(> a (> a a))"} {
		for _, n := range badSizes() {
			checkNoList(t, s, n)
			for m := 1; m <= 3; m++ {
				checkNoParamPair(t, s, m, n)
				checkNoParamPair(t, s, n, m)
			}
			for _, m := range badSizes() {
				checkNoParamPair(t, s, m, n)
			}
		}
	}
	for n := 1; n <= 3; n++ {
		checkParamPair(t, "(> a a)", n, n, []int{0, 2, 21}[n-1], []int{0, 2, 21}[n-1], true)
		checkReached(t, "(> a a)", n, 1, []int{[]int{0, 2, 21}[n-1]}, true)
	}
}

func TestCountsOfParametricElements(t *testing.T) {
	// Not known on one side only, though elements are in range.
	for _, c := range []struct {
		s    string
		m, n int
	}{
		{"(> a (> a a))", 2, 3}, {"(> a (> a a))", 1, 3}, {"(> (> a a) (> a a))", 2, 3}, {"(> (> a a) a)", 1, 3}, {"(> (> (> a a) a) a)", 1, 2}, {"(> (> (> a o) o) o)", 1, 2}, {"(> (> (> a o) o) o)", 1, 3}, {"(* (> (> a o) a) o)", 1, 3}, {"(> (* (> a o) (> o o)) o)", 1, 2}, {"(> a (> a (* a o)))", 2, 3},
	} {
		checkNoParamPair(t, c.s, c.m, c.n)
		checkNoParamPair(t, c.s, c.n, c.m)
		checkNoParamPair(t, c.s, c.n, c.n)
		checkNoList(t, c.s, c.n)
		if _, ok := impl.ParamList(c.s, c.m); !ok {
			t.Errorf("ParamList(%q, %d) fails", c.s, c.m)
		}
	}
	// Counts are made of twos and threes, so that none is 300: the nearest ones are 288 and 324.
	for _, c := range []struct {
		s     string
		n     int
		count int
	}{
		{"(* (* a a) (* o (* o (* o (* o o)))))", 3, 288}, {"(* (* a a) (> o (* o (* o (> o o)))))", 1, 256}, {"(* (> a (> a a)) (* a (> a o)))", 2, 128}, {"(* (> a a) (* a o))", 3, 162}, {"(> (> a o) o)", 3, 256},
	} {
		if n := impl.SetCount(c.s, []string{"a"}, []int{c.n}); n != c.count {
			t.Fatalf("the test has %d elements of %s", n, c.s)
		}
		checkParamList(t, c.s, c.n, paramBetween(readType(c.s), c.n, c.n).list(), true)
	}
	for _, c := range []struct {
		s     string
		n     int
		count int
	}{
		{"(* (* a a) (* (* a a) (* o o)))", 3, 324}, {"(* (> a a) (> o (* o o)))", 3, 432}, {"(* (* o o) (> o (* o (* o (* o o)))))", 1, 1024}, {"(> a (> a o))", 3, 512}, {"(> a (* a a))", 3, 729}, {"(> (* a (* o o)) o)", 3, 4096}, {"(* o (> (> o o) (* o o)))", 2, 512}, {"(* (> o o) (* (> o (* o o)) (* o (* o o))))", 1, 512}, {"(* (* o (* o (> o o))) (* o (> a (> a o))))", 2, 512},
	} {
		if n := impl.SetCount(c.s, []string{"a"}, []int{c.n}); n != c.count {
			t.Fatalf("the test has %d elements of %s", n, c.s)
		}
		checkNoList(t, c.s, c.n)
	}
}

func TestNoTypesOfParametricElements(t *testing.T) {
	for _, s := range append(badTypes(), otherTypes()...) {
		for n := -1; n <= 4; n++ {
			checkParamList(t, s, n, nil, false)
			checkReached(t, s, n, 2, nil, false)
			checkNoParamPair(t, s, n, n)
			checkNoParamPair(t, s, 1, n)
			checkNoParamPair(t, s, n, 2)
		}
		for depth := -1; depth <= 5; depth++ {
			checkNoTerms(t, s, depth)
			checkReached(t, s, 1, depth, nil, false)
		}
	}
}

// checkParam compares all that is told of a type for two sizes with what the tests find on their own. It tells how many pairs are parametric together.
func checkParam(t *testing.T, d *dice, c paramCase) int {
	t.Helper()
	s, p := c.kind.String(), paramBetween(c.kind, c.m, c.n)
	if !p.known() {
		checkNoParamPair(t, s, c.m, c.n)
		return 0
	}
	held := 0
	for _, x := range d.some(p.left) {
		for _, y := range []int{x, d.below(p.right), p.right - 1, p.right, -1} {
			want := p.pair(x, y)
			checkParamPair(t, s, c.m, c.n, x, y, want)
			if want {
				held++
			}
		}
	}
	if c.m == c.n && p.left <= 300 {
		checkParamList(t, s, c.n, p.list(), true)
	}
	return held
}

func TestParametricElements(t *testing.T) {
	d := dice(71)
	held, several := 0, 0
	for _, c := range paramCases(71) {
		n := checkParam(t, &d, c)
		held += n
		if n > 1 && slices.Contains(c.kind.names(), "a") {
			several++
		}
	}
	checkCount(t, "ParamPair holds", held, 2500)
	checkCount(t, "types with the variable have several such elements", several, 150)
}

// Types on which it would take too long to try all elements of the parts for all relations.
func TestParametricElementsOfLargeTypes(t *testing.T) {
	twelve := "(* a (* o o))"
	for _, c := range []struct {
		s string
		n int
		x int
	}{
		{"(> " + twelve + " o)", 3, 4095}, {"(> o (> o (> a o)))", 3, 4095}, {"(> o (> a (* o o)))", 3, 0}, {"(> a (> a (> a a)))", 2, 170}, {"(> (> (* a (> o a)) (> (* o (* o a)) (* o (* (* o a) (* a o))))) (> (* o (* (* a o) o)) (> o a)))", 1, 0}, {strings.Repeat("(* (> a a) ", 2) + "(> a o)" + strings.Repeat(")", 2), 2, 2*16 + 2*4 + 3},
	} {
		checkParamPair(t, c.s, c.n, c.n, c.x, c.x, true)
	}
}

func TestParametricElementsShareNoMemory(t *testing.T) {
	for _, s := range []string{"o", "(> a a)", "(> a (> a a))", "(* o o)", "(> o o)", "a", "(* (> o o) o)"} {
		for _, call := range []func() []int{
			func() []int { x, _ := impl.ParamList(s, 2); return x },
			func() []int { x, _ := impl.ParamReached(s, 2, 1); return x },
		} {
			first := call()
			want := slices.Clone(first)
			spoil(first)
			if again := call(); !slices.Equal(again, want) {
				t.Errorf("%s has %d and then %d", s, want, again)
			}
		}
		texts, _ := impl.TermsOf(s, 2)
		want := slices.Clone(texts)
		texts = texts[:cap(texts)]
		for i := range texts {
			texts[i] = "true"
		}
		checkTerms(t, s, 2, want)
	}
}
