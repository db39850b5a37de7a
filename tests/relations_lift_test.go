package tests

import (
	"math"
	"slices"
	"strings"
	"testing"

	"loop.example/parametric/impl"
)

// checkLifted compares all that is told of a case with what the tests find on their own, and tells whether the counts are known and small.
func checkLifted(t *testing.T, d *dice, c liftCase) bool {
	t.Helper()
	l := plainLift(c.names, c.rels)
	x, y, known := l.counts(c.kind)
	if !known {
		checkNoLift(t, c.kind.String(), c.names, c.rels)
		return false
	}
	for _, i := range []int{-1, 0, x - 1, x, d.below(x), d.below(x)} {
		for _, j := range []int{-1, 0, y - 1, y, d.below(y), d.below(y)} {
			want := i >= 0 && i < x && j >= 0 && j < y && l.related(c.kind, i, j)
			if c.related(i, j) != want {
				t.Errorf("Related(%s) of %d and %d is %v", c, i, j, !want)
			}
		}
	}
	lifted, ok := c.lift()
	if x > impl.RelMax || y > impl.RelMax {
		checkRel(t, "RelLift of "+c.String(), lifted, ok, impl.Rel{})
		return false
	}
	checkRel(t, "RelLift of "+c.String(), lifted, ok, l.whole(c.kind))
	return true
}

func TestLiftedRelations(t *testing.T) {
	d := dice(61)
	small, several := 0, 0
	for _, c := range liftCases(61) {
		if checkLifted(t, &d, c) {
			small++
			if lifted, _ := c.lift(); len(lifted.Pairs) > 1 && len(lifted.Pairs) < lifted.Left*lifted.Right {
				several++
			}
		}
	}
	checkCount(t, "RelLift succeeds", small, 2500)
	checkCount(t, "it has some pairs and not all", several, 1500)
}

// liftOf returns the case that texts tell: a type, and names and relations like "a 2 2 | 0, b 1 3 | 2".
func liftOf(kind string, given string) liftCase {
	c := liftCase{kind: readType(kind)}
	for _, part := range strings.Split(given, ", ") {
		name, rel, _ := strings.Cut(part, " ")
		if name != "" {
			c.names, c.rels = append(c.names, name), append(c.rels, relOf(rel))
		}
	}
	return c
}

func TestLiftedByHand(t *testing.T) {
	for _, c := range [][3]string{
		{"o", "", "2 2 | 0 3"}, {"o", "a 1 1 |", "2 2 | 0 3"}, {"a", "a 2 3 | 0 5", "2 3 | 0 5"}, {"a", "a 2 3 |", "2 3 |"}, {"a", "a 4 4 | 3 12", "4 4 | 3 12"}, {"b", "a 1 1 | 0, b 2 1 | 1", "2 1 | 1"}, {"b", "b 2 1 | 1, a 1 1 | 0", "2 1 | 1"},
		{"(* o o)", "", "4 4 | 0 5 10 15"}, {"(> o o)", "", "4 4 | 0 5 10 15"}, {"(* a o)", "a 1 2 | 1", "2 4 | 2 7"}, {"(* o a)", "a 1 2 | 1", "2 4 | 1 7"}, {"(* a b)", "a 1 2 | 1, b 2 1 | 0", "2 2 | 1"}, {"(* b a)", "a 1 2 | 1, b 2 1 | 0", "2 2 | 1"}, {"(* a a)", "a 2 2 | 1", "4 4 | 3"}, {"(* a b)", "a 2 2 | 0 3, b 2 2 |", "4 4 |"}, {"(* b a)", "a 2 2 | 0 3, b 2 2 |", "4 4 |"}, {"(* a b)", "a 2 1 | 0 1, b 1 3 | 0 2", "2 3 | 0 2 3 5"},
		{"(> a a)", "a 2 2 | 0", "4 4 | 0 2 8 10"}, {"(> a a)", "a 2 2 | 1 2", "4 4 | 3 5 10 12"}, {"(> a a)", "a 1 2 | 0 1", "1 4 | 0 1 2 3"}, {"(> a a)", "a 1 2 | 1", "1 4 | 2 3"}, {"(> a a)", "a 2 1 | 1", "4 1 | 2 3"}, {"(> a b)", "a 2 2 | 1 2, b 2 2 | 0 3", "4 4 | 0 6 9 15"}, {"(> o a)", "a 2 2 | 3", "4 4 | 15"}, {"(> o a)", "a 2 2 | 1", "4 4 | 3"}, {"(> a o)", "a 2 2 | 0", "4 4 | 0 2 5 7 8 10 13 15"}, {"(> a o)", "a 1 2 | 0 1", "2 4 | 0 7"}, {"(> a o)", "a 1 2 | 0", "2 4 | 0 2 5 7"},
		// Without pairs: on the left of a function all is related, and on the right nothing.
		{"(> a o)", "a 2 2 |", "4 4 | 0 1 2 3 4 5 6 7 8 9 10 11 12 13 14 15"}, {"(> a o)", "a 1 1 |", "2 2 | 0 1 2 3"}, {"(> o a)", "a 2 2 |", "4 4 |"}, {"(> o a)", "a 1 1 |", "1 1 |"}, {"(> a a)", "a 1 1 |", "1 1 | 0"}, {"(> a a)", "a 2 1 |", "4 1 | 0 1 2 3"}, {"(> a b)", "a 1 1 |, b 2 1 |", "2 1 | 0 1"}, {"(> (> o a) a)", "a 1 1 |", "1 1 | 0"}, {"(> (> a a) a)", "a 1 1 |", "1 1 |"}, {"(> (> (> o a) a) a)", "a 1 1 |", "1 1 |"}, {"(> (* a b) o)", "a 1 1 |, b 1 1 | 0", "2 2 | 0 1 2 3"}, {"(> (* b a) a)", "a 1 1 |, b 1 1 | 0", "1 1 | 0"}, {"(> b a)", "a 1 1 |, b 1 1 | 0", "1 1 |"}, {"(> b a)", "a 1 1 | 0, b 1 1 |", "1 1 | 0"},
		// Functions of functions.
		{"(> (> a a) a)", "a 1 2 | 0", "1 16 | 0 2 8 10"}, {"(> (> a o) o)", "a 2 2 | 0", "16 16 | 0 85 170 255"}, {"(> (> a a) a)", "a 2 1 | 0", "16 1 | 0 2 8 10"}, {"(> (> o a) a)", "a 1 2 | 1", "1 16 | 8 9 10 11 12 13 14 15"}, {"(> a (> a a))", "a 1 2 | 1", "1 16 | 8 9 10 11 12 13 14 15"}, {"(> (> a b) a)", "a 1 2 | 1, b 1 1 | 0", "1 2 | 1"}, {"(> (> a b) a)", "a 1 2 | 1, b 1 1 |", "1 2 | 0 1"}, {"(> (> b a) (> a b))", "a 1 1 | 0, b 1 2 | 1", "1 2 | 1"}, {"(> a (* a a))", "a 1 2 | 1", "1 16 | 12 13 14 15"},
	} {
		want := relOf(c[2])
		x := liftOf(c[0], c[1])
		lifted, ok := x.lift()
		checkRel(t, "RelLift of "+x.String(), lifted, ok, want)
		back, ok := x.back().lift()
		checkRel(t, "RelLift of "+x.back().String(), back, ok, backPairs(want))
		for i := range want.Left {
			for j := range want.Right {
				if x.related(i, j) != hasPair(want, i, j) || x.back().related(j, i) != hasPair(want, i, j) {
					t.Errorf("Related(%s) of %d and %d is not %v both ways", x, i, j, hasPair(want, i, j))
				}
			}
		}
		for _, n := range []int{-1, -2, math.MinInt, max(want.Left, want.Right), 1 << 32, math.MaxInt} {
			if x.related(n, 0) || x.related(0, n) || x.related(n, n) || x.related(want.Left-1, n) || x.related(n, want.Right-1) {
				t.Errorf("Related(%s) of %d holds", x, n)
			}
		}
		if x.related(want.Left, 0) || x.related(0, want.Right) {
			t.Errorf("Related(%s) of the counts holds", x)
		}
	}
}

func TestLiftOfListsThatAreNoModels(t *testing.T) {
	good := equalPairs(2)
	for _, kind := range []string{"o", "a", "b", "z", "(> a a)", "(* a b)", "(* o o)", "(> o o)"} {
		for _, c := range []struct {
			names []string
			rels  []impl.Rel
		}{
			// Lists of different lengths.
			{nil, []impl.Rel{good}}, {[]string{"a"}, nil}, {[]string{"a", "b"}, []impl.Rel{good}}, {[]string{"a"}, []impl.Rel{good, good}}, {[]string{"a", "b", "z"}, []impl.Rel{good, good}}, {[]string{"a", "b"}, []impl.Rel{good, good, good}},
			// A variable that stands twice, and names that are no variables.
			{[]string{"a", "a"}, []impl.Rel{good, good}}, {[]string{"a", "b", "a"}, []impl.Rel{good, good, noPairs(1, 1)}}, {[]string{"z", "b", "a", "z"}, []impl.Rel{good, good, good, good}}, {[]string{"o"}, []impl.Rel{good}}, {[]string{"a", "o", "b"}, []impl.Rel{good, good, good}}, {[]string{"a", "b", "aa"}, []impl.Rel{good, good, good}}, {[]string{"a", "b", ""}, []impl.Rel{good, good, good}},
		} {
			checkNoLift(t, kind, c.names, c.rels)
		}
		for _, name := range badTypes() {
			checkNoLift(t, kind, []string{"a", name, "b"}, []impl.Rel{good, good, good})
		}
		// A side that is greater than SizeMax, on the left, on the right and on both, of a variable that stands in the type and of one that does not.
		for _, sides := range [][2]int{{5, 1}, {1, 5}, {5, 5}, {4, 5}, {5, 4}, {128, 1}, {1, 128}, {128, 128}} {
			large := allPairs(sides[0], sides[1])
			checkNoLift(t, kind, []string{"a", "b", "c"}, []impl.Rel{good, good, large})
			checkNoLift(t, kind, []string{"a", "b"}, []impl.Rel{large, good})
			checkNoLift(t, kind, []string{"b", "a"}, []impl.Rel{large, good})
			checkNoLift(t, kind, []string{"a"}, []impl.Rel{large})
		}
	}
	every := strings.Split(allLetters, "")
	for _, more := range []string{"o", "a", "z", "ab", ""} {
		names := append(slices.Clone(every), more)
		checkNoLift(t, "(> a b)", names, slices.Repeat([]impl.Rel{good}, 26))
		checkNoLift(t, "o", append(names, "b"), slices.Repeat([]impl.Rel{good}, 27))
	}
	checkNoLift(t, "o", slices.Repeat([]string{"a"}, 100000), slices.Repeat([]impl.Rel{good}, 100000))
	checkNoLift(t, "o", slices.Repeat([]string{"a"}, 100000), slices.Repeat([]impl.Rel{allPairs(5, 5)}, 100000))
	// All variables at once are a model.
	lifted, ok := impl.RelLift("(* a z)", every, slices.Repeat([]impl.Rel{good}, 25))
	checkRel(t, "RelLift with all variables", lifted, ok, equalPairs(4))
	lifted, ok = impl.RelLift("a", []string{"a"}, []impl.Rel{allPairs(impl.SizeMax, impl.SizeMax)})
	checkRel(t, "RelLift with sides of SizeMax", lifted, ok, allPairs(4, 4))
}

func TestLiftOfTypesThatHaveNoCount(t *testing.T) {
	for _, kind := range badTypes() {
		checkNoLift(t, kind, nil, nil)
		checkNoLift(t, kind, []string{"a", "b", "c"}, []impl.Rel{equalPairs(1), equalPairs(1), equalPairs(1)})
	}
	for _, c := range [][2]string{
		// A variable without a relation.
		{"a", ""}, {"b", "a 2 2 | 0 3"}, {"(> a b)", "a 2 2 | 0 3"}, {"(> b a)", "a 1 1 | 0"}, {"(* o (> o z))", "a 1 1 | 0, b 1 1 | 0"}, {"(> (> b o) a)", "a 1 1 | 0"}, {"(* a b)", "b 2 2 |"},
		// A count that is not known on one side only, and on both.
		{"(> a (> a a))", "a 2 3 | 0"}, {"(> (> a a) a)", "a 1 3 | 0"}, {"(> (> a a) a)", "a 1 3 |"}, {"(> (> a a) a)", "a 2 3 | 0 4"}, {"(> (> a a) (> a a))", "a 2 4 | 0"}, {"(> (* a b) b)", "a 1 3 | 0, b 1 4 | 0"}, {"(* (> (* a b) o) o)", "a 1 3 | 0, b 1 4 | 0"}, {"(* (> (* a b) o) c)", "a 1 3 | 0, b 1 4 | 0, c 1 2 | 0"}, {"(> (> (> (* c d) o) o) a)", "a 1 1 | 0, c 1 3 | 0, d 1 4 | 0"}, {"(* a (> (> (* c d) o) o))", "a 1 1 | 0, c 1 3 | 0, d 1 4 | 0"}, {"(> a (> a a))", "a 3 3 | 0"}, {"(> (> a a) (> a a))", "a 3 4 | 0"},
	} {
		x := liftOf(c[0], c[1])
		checkNoLift(t, c[0], x.names, x.rels)
		checkNoLift(t, c[0], x.names, x.back().rels)
	}
	// The same types with counts that are known on both sides.
	for _, c := range [][2]string{
		{"(> a (> a a))", "a 2 2 | 0"}, {"(> (> a a) a)", "a 1 2 | 0"}, {"(> (* a b) b)", "a 1 2 | 0, b 1 2 | 0"}, {"(* (> (* a b) o) o)", "a 1 3 | 0, b 1 2 | 0"}, {"(> (> (> (* c d) o) o) a)", "a 1 1 | 0, c 1 3 | 0, d 1 1 | 0"},
	} {
		if x := liftOf(c[0], c[1]); !x.related(0, 0) || !x.back().related(0, 0) {
			t.Errorf("Related(%s) of 0 and 0 does not hold", x)
		}
	}
}

func TestCountsOfLiftedSides(t *testing.T) {
	// Counts are made of twos and threes, so that of those above RelMax 144 is the least.
	four := "(* (* a b) (* c d))"
	size128, size144 := []int{4, 4, 4, 2}, []int{3, 3, 4, 4}
	size96 := []int{2, 3, 4, 4}
	between := func(left []int, right []int) liftCase {
		x := liftCase{kind: readType(four), names: []string{"a", "b", "c", "d"}}
		for i := range left {
			x.rels = append(x.rels, allPairs(left[i], right[i]))
		}
		return x
	}
	for _, c := range []struct {
		left, right []int
		want        impl.Rel
	}{
		{size128, size128, allPairs(128, 128)}, {size128, size96, allPairs(128, 96)}, {size96, size128, allPairs(96, 128)}, {size96, size96, allPairs(96, 96)}, {size128, size144, impl.Rel{}}, {size144, size128, impl.Rel{}}, {size144, size144, impl.Rel{}}, {size144, size96, impl.Rel{}}, {size96, size144, impl.Rel{}}, {[]int{1, 1, 1, 1}, size144, impl.Rel{}}, {size144, []int{1, 1, 1, 1}, impl.Rel{}}, {[]int{1, 1, 1, 1}, size128, allPairs(1, 128)},
	} {
		x := between(c.left, c.right)
		lifted, ok := x.lift()
		checkRel(t, "RelLift of "+x.String(), lifted, ok, c.want)
		if !x.related(0, 0) || !x.related(95%plainProduct(c.left), 95%plainProduct(c.right)) || x.related(plainProduct(c.left), 0) || x.related(0, plainProduct(c.right)) {
			t.Errorf("Related(%s) does not hold for elements alone", x)
		}
	}
	for _, c := range [][2]string{
		{"(* (> (* a o) o) o)", "a 3 3 | 0 1 2 3 4 5 6 7 8"}, {"(* o (> (* a o) o))", "a 3 3 | 0 4 8"}, {"(> (* o (> o a)) a)", "a 1 1 | 0"}, {"(> o (* a a))", "a 1 2 |"}, {"(> o (* (* o o) o))", "a 1 1 |"},
	} {
		d := dice(62)
		if x := liftOf(c[0], c[1]); !checkLifted(t, &d, x) {
			t.Errorf("the counts of %s are too large", x)
		}
	}
	for _, c := range [][2]string{
		{"(* (* a b) (* a b))", "a 3 3 | 0 4 8, b 4 4 | 0 5 10 15"}, {"(> (> o o) (* o o))", ""}, {"(> a (* o o))", "a 4 4 | 0 6 9 15"}, {"(> (* a b) o)", "a 3 3 | 1 5 6, b 4 4 | 0 5 10 15"}, {"(> a a)", "a 4 1 | 3"}, {"(> a a)", "a 1 4 | 3"},
	} {
		d := dice(63)
		if x := liftOf(c[0], c[1]); checkLifted(t, &d, x) {
			t.Errorf("the counts of %s are not too large", x)
		}
	}
}

func plainProduct(sizes []int) int {
	product := 1
	for _, size := range sizes {
		product *= size
	}
	return product
}

// The largest sets stand on the left of functions to sets of one element. To go through all pairs of them for each other pair would take longer than tests may.
func TestLiftOfLargeSets(t *testing.T) {
	six := "(* b (* b (* b (* b (* b b)))))"
	large := "(> (* c d) o)"
	for _, c := range []struct {
		kind  string
		given string
		want  bool
	}{
		{large, "c 3 3 | 0 4 8, d 4 4 | 0 5 10 15", true}, {"(> " + large + " a)", "a 1 1 |, c 3 3 | 0 4 8, d 4 4 | 0 5 10 15", false}, {"(> " + large + " a)", "a 1 1 | 0, c 3 3 | 0 4 8, d 4 4 | 0 5 10 15", true}, {"(> " + large + " a)", "a 1 1 |, c 3 3 |, d 4 4 |", false}, {"(> (* a " + large + ") a)", "a 1 1 |, c 3 3 |, d 4 4 |", true},
		{"(> " + six + " (> " + six + " (> " + six + " a)))", "a 1 1 |, b 4 4 | 0 1 2 3 4 5 6 7 8 9 10 11 12 13 14 15", false}, {"(> " + six + " (> " + six + " (> " + six + " a)))", "a 1 1 |, b 4 4 |", true}, {"(> " + six + " (> " + six + " (> " + six + " a)))", "a 1 2 |, b 4 1 | 0 1 2 3", false}, {"(> " + six + " (> " + six + " (> " + six + " a)))", "a 1 2 | 0, b 4 1 | 0 1 2 3", true}, {"(> " + six + " (> " + six + " (> " + six + " a)))", "a 1 2 | 1, b 4 1 | 0 1 2 3", false},
		{"(> (> " + large + " a) e)", "a 1 1 |, c 3 3 | 0, d 4 4 | 0, e 1 1 |", true}, {"(> (> " + large + " a) e)", "a 1 1 | 0, c 3 3 | 0, d 4 4 | 0, e 1 1 |", false}, {"(> (> (* c (* d " + six + ")) a) e)", "a 2 1 | 0 1, b 1 4 | 0 3, c 3 1 | 0 2, d 4 1 | 1, e 1 1 |", false}, {strings.Repeat("(* ", 17) + large + strings.Repeat(" a)", 17), "a 1 1 | 0, c 3 3 | 0 4 8, d 4 4 | 0 5 10 15", true},
	} {
		x := liftOf(c.kind, c.given)
		if x.related(0, 0) != c.want || x.back().related(0, 0) != c.want {
			t.Errorf("Related(%s) of 0 and 0 is not %v both ways", x, c.want)
		}
	}
	for _, c := range [][3]int{{0, 4095, 0}, {4095, 4095, 1}, {1234, 1234, 1}, {1234, 1235, 0}, {4095, 0, 0}, {2048, 2048, 1}, {2048, 0, 0}} {
		x := liftOf(large, "c 3 3 | 0 4 8, d 4 4 | 0 5 10 15")
		if x.related(c[0], c[1]) != (c[2] == 1) {
			t.Errorf("Related(%s) of %d and %d is %v", x, c[0], c[1], c[2] == 0)
		}
	}
}
