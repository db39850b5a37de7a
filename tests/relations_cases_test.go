package tests

import (
	"fmt"
	"math"
	"slices"
	"testing"

	"loop.example/parametric/impl"
)

func TestConstantOfRelations(t *testing.T) {
	if impl.RelMax != 128 {
		t.Errorf("the constant is %d", impl.RelMax)
	}
}

// farNumbers are in range of no relation.
func farNumbers() []int {
	return []int{-1, -2, -64, impl.RelMax, impl.RelMax + 1, 1 << 32, math.MinInt, math.MaxInt}
}

func TestRelationsThatAreValid(t *testing.T) {
	for _, r := range goodRels() {
		if !impl.RelValid(r) {
			t.Errorf("RelValid(%s) does not hold", relText(r))
		}
		for i := -1; i <= r.Left; i++ {
			for j := -1; j <= r.Right; j++ {
				want := i >= 0 && i < r.Left && j >= 0 && j < r.Right && hasPair(r, i, j)
				if (i+j)%16 == 0 || want || r.Left*r.Right < 300 {
					checkHas(t, r, i, j, want)
				}
			}
		}
		for _, n := range farNumbers() {
			checkHas(t, r, n, 0, false)
			checkHas(t, r, 0, n, false)
			checkHas(t, r, n, n, false)
		}
	}
}

func checkHas(t *testing.T, r impl.Rel, i int, j int, want bool) {
	t.Helper()
	if impl.RelHas(r, i, j) != want {
		t.Errorf("RelHas(%s, %d, %d) is %v", relText(r), i, j, !want)
	}
}

// checkNoRel checks that nothing is told of a relation that is invalid.
func checkNoRel(t *testing.T, r impl.Rel) {
	t.Helper()
	text := relText(r)
	if impl.RelValid(r) {
		t.Errorf("RelValid(%s) holds", text)
	}
	for _, n := range append(farNumbers(), 0, 1, 2, 3) {
		checkHas(t, r, 0, n, false)
		checkHas(t, r, n, 0, false)
		checkHas(t, r, 1, n, false)
		checkHas(t, r, n, n, false)
	}
	back, ok := impl.RelBack(r)
	checkRel(t, "RelBack of "+text, back, ok, impl.Rel{})
	checkNoFunction(t, r)
	for _, other := range []impl.Rel{r, noPairs(r.Right, 1), noPairs(1, 1), equalPairs(2), allPairs(2, 2), allPairs(128, 128), {}} {
		checkNotJoined(t, r, other)
		checkNotJoined(t, other, r)
	}
	checkNotJoined(t, noPairs(1, r.Left), r)
	for _, kind := range []string{"o", "a", "b", "(> a a)", "(* a b)", "(> o o)"} {
		checkNoLift(t, kind, []string{"a", "b"}, []impl.Rel{r, equalPairs(2)})
		checkNoLift(t, kind, []string{"a", "b"}, []impl.Rel{equalPairs(2), r})
		checkNoLift(t, kind, []string{"a"}, []impl.Rel{r})
	}
}

// checkNotJoined checks that two relations cannot be joined.
func checkNotJoined(t *testing.T, a impl.Rel, b impl.Rel) {
	t.Helper()
	joined, ok := impl.RelJoin(a, b)
	checkRel(t, "RelJoin of "+relText(a)+" and "+relText(b), joined, ok, impl.Rel{})
}

func checkNoFunction(t *testing.T, r impl.Rel) {
	t.Helper()
	if list, ok := impl.RelFun(r); ok || len(list) != 0 {
		t.Errorf("RelFun(%s) returns %d, %v", relText(r), list, ok)
	}
}

// checkNoLift checks that nothing is told of a type with relations of variables.
func checkNoLift(t *testing.T, kind string, names []string, rels []impl.Rel) {
	t.Helper()
	lifted, ok := impl.RelLift(kind, names, rels)
	call := fmt.Sprintf("(%q, %.100q, %s)", short(kind), names, relTexts(rels[:min(5, len(rels))]))
	checkRel(t, "RelLift"+call, lifted, ok, impl.Rel{})
	for _, x := range []int{-1, 0, 1, 2, 3} {
		for _, y := range []int{-1, 0, 1, 2, 3} {
			if impl.Related(kind, names, rels, x, y) {
				t.Errorf("Related%s of %d and %d holds", call, x, y)
			}
		}
	}
}

func TestRelationsThatAreInvalid(t *testing.T) {
	for _, r := range badRels() {
		checkNoRel(t, r)
	}
}

func TestSizesOfRelations(t *testing.T) {
	for _, n := range []int{1, 2, 3, 63, 64, 65, 127, impl.RelMax} {
		same, ok := impl.RelSame(n)
		checkRel(t, fmt.Sprint("RelSame of ", n), same, ok, equalPairs(n))
		graph, ok := impl.RelGraph(sameSizes(n, 0), 1)
		checkRel(t, fmt.Sprint("RelGraph of numbers 0: ", n), graph, ok, allPairs(n, 1))
		graph, ok = impl.RelGraph([]int{n - 1}, n)
		checkRel(t, fmt.Sprint("RelGraph of one number of ", n), graph, ok, impl.Rel{Left: 1, Right: n, Pairs: []int{n - 1}})
	}
	for _, n := range []int{0, -1, -2, -128, impl.RelMax + 1, impl.RelMax + 2, 256, 257, 1 << 32, math.MinInt, math.MaxInt} {
		same, ok := impl.RelSame(n)
		checkRel(t, fmt.Sprint("RelSame of ", n), same, ok, impl.Rel{})
		for _, list := range [][]int{nil, {0}, {0, 0}, {0, 1}, {-1}, {n}, {n - 1}, sameSizes(128, 0)} {
			graph, ok := impl.RelGraph(list, n)
			checkRel(t, fmt.Sprint("RelGraph of ", list, " and ", n), graph, ok, impl.Rel{})
		}
		for _, other := range []int{n, 1, 2, 0, -1} {
			for number := range 3 {
				checkNumber(t, n, other, number, impl.Rel{})
				checkNumber(t, other, n, number, impl.Rel{})
			}
		}
	}
}

func TestGraphs(t *testing.T) {
	for _, c := range []struct {
		list  []int
		right int
		want  string
	}{
		{[]int{1, 0}, 2, "2 2 | 1 2"}, {[]int{0}, 1, "1 1 | 0"}, {[]int{0, 0}, 1, "2 1 | 0 1"}, {[]int{2}, 3, "1 3 | 2"}, {[]int{0, 1, 2}, 3, "3 3 | 0 4 8"}, {[]int{2, 0, 2, 1}, 3, "4 3 | 2 3 8 10"}, {[]int{0, 0, 0}, 5, "3 5 | 0 5 10"}, {[]int{127}, 128, "1 128 | 127"}, {[]int{127, 0}, 128, "2 128 | 127 128"},
		// An empty list, and numbers that are not on the right side.
		{nil, 1, ""}, {[]int{}, 2, ""}, {nil, 0, ""}, {nil, 128, ""}, {[]int{2, 0}, 2, ""}, {[]int{0, 2}, 2, ""}, {[]int{1}, 1, ""}, {[]int{0, 1}, 1, ""}, {[]int{-1, 0}, 2, ""}, {[]int{0, -1}, 2, ""}, {[]int{0, 1, -2}, 3, ""}, {[]int{0, 3, 0}, 3, ""}, {[]int{4, 0}, 2, ""}, {[]int{128}, 128, ""}, {[]int{0, 128}, 128, ""}, {[]int{64}, 64, ""}, {[]int{1 << 32}, 2, ""}, {[]int{math.MaxInt}, 2, ""}, {[]int{math.MinInt}, 2, ""}, {[]int{0, math.MinInt}, 1, ""},
		{sameSizes(impl.RelMax+1, 0), 1, ""}, {sameSizes(impl.RelMax+1, 0), 128, ""}, {sameSizes(100000, 0), 2, ""}, {[]int{0}, impl.RelMax + 1, ""}, {[]int{0}, 0, ""}, {[]int{0}, -1, ""}, {[]int{-1}, -1, ""},
	} {
		graph, ok := impl.RelGraph(c.list, c.right)
		checkRel(t, fmt.Sprint("RelGraph of ", c.list, " and ", c.right), graph, ok, relOf(c.want))
		if c.want == "" {
			continue
		}
		list, ok := impl.RelFun(relOf(c.want))
		if !ok || !slices.Equal(list, c.list) {
			t.Errorf("RelFun(%s) returns %d, %v", c.want, list, ok)
		}
	}
}

func TestRelationsThatAreNoFunctions(t *testing.T) {
	for _, text := range []string{
		// Some number is related to none.
		"1 1 |", "2 2 |", "2 2 | 0", "2 2 | 1", "2 2 | 2", "2 2 | 3", "2 1 | 0", "2 1 | 1", "3 3 | 0 8", "3 3 | 0 4", "3 3 | 4 8", "128 128 |", "128 1 | 0", "3 2 | 0 5", "1 128 |",
		// Some number is related to several.
		"1 2 | 0 1", "2 2 | 0 1 2", "2 2 | 0 1 2 3", "2 2 | 0 2 3", "3 3 | 0 4 7 8", "1 128 | 0 127", "1 128 | 0 64", "1 128 | 63 64", "2 3 | 0 2 5", "2 128 | 127 128 255",
		// As many pairs as there are numbers, but one has two and another one none.
		"2 2 | 0 1", "2 2 | 2 3", "2 3 | 0 2", "3 3 | 0 1 8", "3 2 | 0 4 5", "2 128 | 0 127", "2 128 | 128 192",
	} {
		checkNoFunction(t, relOf(text))
	}
	checkNoFunction(t, allPairs(2, 128))
	checkNoFunction(t, allPairs(128, 2))
	checkNoFunction(t, noPairs(1, 2))
}

func TestRelationsBack(t *testing.T) {
	for _, c := range [][2]string{
		{"1 1 |", "1 1 |"}, {"1 1 | 0", "1 1 | 0"}, {"2 2 | 1", "2 2 | 2"}, {"2 2 | 0 1", "2 2 | 0 2"}, {"2 3 |", "3 2 |"}, {"2 3 | 0 5", "3 2 | 0 5"}, {"2 3 | 1 2", "3 2 | 2 4"}, {"2 3 | 1 2 3", "3 2 | 1 2 4"}, {"1 3 | 0 1 2", "3 1 | 0 1 2"}, {"1 128 | 127", "128 1 | 127"}, {"2 128 | 127 128", "128 2 | 1 254"}, {"128 128 |", "128 128 |"}, {"128 128 | 127", "128 128 | 16256"}, {"3 3 | 1 2 5", "3 3 | 3 6 7"}, {"128 1 |", "1 128 |"},
	} {
		for k := range 2 {
			back, ok := impl.RelBack(relOf(c[k]))
			checkRel(t, "RelBack of "+c[k], back, ok, relOf(c[1-k]))
		}
	}
}

func TestRelationsJoined(t *testing.T) {
	for _, c := range [][3]string{
		{"2 2 | 1 2", "2 2 | 1 2", "2 2 | 0 3"}, {"2 2 | 1", "2 2 | 1", "2 2 |"}, {"2 2 | 1", "2 2 | 2", "2 2 | 0"}, {"2 2 | 0 1", "2 2 | 0 2", "2 2 | 0"}, {"2 2 | 0 2", "2 2 | 0 1", "2 2 | 0 1 2 3"}, {"1 2 | 0 1", "2 1 | 0 1", "1 1 | 0"}, {"1 2 | 0", "2 1 | 1", "1 1 |"},
		{"2 3 | 0 4 5", "3 2 | 1 2 4", "2 2 | 1 2"}, {"3 1 | 0 2", "1 3 | 1 2", "3 3 | 1 2 7 8"}, {"2 3 | 2 3", "3 4 | 3 4 8 9", "2 4 | 0 1 7"}, {"1 1 | 0", "1 1 | 0", "1 1 | 0"}, {"1 128 | 127", "128 1 | 127", "1 1 | 0"}, {"1 128 | 127", "128 2 | 253 254", "1 2 | 0"}, {"2 128 | 64 128", "128 128 | 127 8192", "2 128 | 0 255"}, {"1 128 | 0 64", "128 128 | 1 8194", "1 128 | 1 2"}, {"1 128 | 0 64", "128 128 | 1 8320", "1 128 | 1"},
		// Without pairs.
		{"1 1 |", "1 1 |", "1 1 |"}, {"1 1 |", "1 1 | 0", "1 1 |"}, {"1 1 | 0", "1 1 |", "1 1 |"}, {"2 3 |", "3 2 | 0 1 2 3 4 5", "2 2 |"}, {"2 3 | 0 1 2 3 4 5", "3 2 |", "2 2 |"}, {"2 2 |", "2 2 |", "2 2 |"}, {"1 128 |", "128 1 |", "1 1 |"}, {"128 1 |", "1 128 | 0", "128 128 |"},
		// The sizes in the middle differ.
		{"1 2 |", "1 2 |", ""}, {"2 2 | 0 3", "3 3 | 0 4 8", ""}, {"2 3 | 0", "2 3 | 0", ""}, {"1 1 | 0", "2 1 | 0", ""}, {"3 2 | 0", "3 2 | 0", ""}, {"1 127 |", "128 1 |", ""}, {"1 128 |", "127 1 |", ""}, {"2 1 | 0 1", "2 2 | 0 3", ""}, {"4 4 |", "2 4 |", ""},
	} {
		joined, ok := impl.RelJoin(relOf(c[0]), relOf(c[1]))
		checkRel(t, "RelJoin of "+c[0]+" and "+c[1], joined, ok, relOf(c[2]))
	}
	joined, ok := impl.RelJoin(allPairs(128, 1), allPairs(1, 128))
	checkRel(t, "RelJoin of all pairs", joined, ok, allPairs(128, 128))
	joined, ok = impl.RelJoin(allPairs(128, 128), equalPairs(128))
	checkRel(t, "RelJoin of all pairs and equal ones", joined, ok, allPairs(128, 128))
}

func checkNumber(t *testing.T, left int, right int, n int, want impl.Rel) {
	t.Helper()
	r, ok := impl.RelNumber(left, right, n)
	checkRel(t, fmt.Sprintf("RelNumber(%d, %d, %d)", left, right, n), r, ok, want)
}

func TestRelationsWithNumbers(t *testing.T) {
	for left := range impl.RelMax + 2 {
		for right := range impl.RelMax + 2 {
			product := left * right
			if product < 1 || product > 16 {
				for _, n := range []int{-1, 0, 1, 2} {
					checkNumber(t, left, right, n, impl.Rel{})
				}
				continue
			}
			checkNumber(t, left, right, 0, noPairs(left, right))
			checkNumber(t, left, right, 1, impl.Rel{Left: left, Right: right, Pairs: []int{0}})
			checkNumber(t, left, right, 1<<product-1, allPairs(left, right))
			checkNumber(t, left, right, 1<<(product-1), impl.Rel{Left: left, Right: right, Pairs: []int{product - 1}})
			for _, n := range []int{1 << product, 1<<product + 1, 1 << (product + 1), 1 << 32, 1<<32 + 1, 1 << 62, -1, -2, -1 << product, math.MinInt, math.MaxInt} {
				checkNumber(t, left, right, n, impl.Rel{})
			}
		}
	}
	for _, c := range []struct {
		left, right, n int
		want           string
	}{
		{2, 2, 9, "2 2 | 0 3"}, {2, 2, 6, "2 2 | 1 2"}, {2, 2, 15, "2 2 | 0 1 2 3"}, {2, 2, 0, "2 2 |"}, {2, 2, 16, ""}, {1, 1, 1, "1 1 | 0"}, {1, 1, 2, ""}, {2, 3, 33, "2 3 | 0 5"}, {3, 2, 33, "3 2 | 0 5"}, {3, 3, 273, "3 3 | 0 4 8"}, {4, 4, 33825, "4 4 | 0 5 10 15"}, {4, 4, 65535, "4 4 | 0 1 2 3 4 5 6 7 8 9 10 11 12 13 14 15"}, {4, 4, 65536, ""}, {1, 16, 32769, "1 16 | 0 15"}, {16, 1, 32769, "16 1 | 0 15"}, {2, 8, 384, "2 8 | 7 8"}, {8, 2, 65536, ""},
		// A product of just one more than 16, and of more.
		{1, 17, 1, ""}, {17, 1, 1, ""}, {17, 1, 0, ""}, {1, 17, 0, ""}, {2, 9, 1, ""}, {9, 2, 0, ""}, {3, 6, 5, ""}, {4, 5, 0, ""}, {5, 4, 1, ""}, {128, 128, 0, ""}, {1, 128, 0, ""},
		// Products that are in range of sizes that are not.
		{-1, -1, 0, ""}, {-1, -1, 1, ""}, {-2, -2, 9, ""}, {-4, -4, 0, ""}, {-16, -1, 1, ""}, {0, 0, 0, ""}, {math.MinInt, -1, 0, ""}, {1 << 32, 1 << 32, 0, ""}, {1 << 62, 4, 0, ""}, {6148914691236517206, 3, 1, ""}, {3, 6148914691236517206, 1, ""}, {math.MaxInt, math.MaxInt, 0, ""}, {math.MaxInt, math.MaxInt, 1, ""},
	} {
		checkNumber(t, c.left, c.right, c.n, relOf(c.want))
	}
}

// roomy returns a relation whose list of pairs has room behind it, filled with numbers that must stay.
func roomy(r impl.Rel) (impl.Rel, func(t *testing.T, call string)) {
	list := append(slices.Clone(r.Pairs), 7, 8, 9)
	given := slices.Clone(list)
	r.Pairs = list[:len(r.Pairs)]
	return r, func(t *testing.T, call string) {
		t.Helper()
		if !slices.Equal(list, given) {
			t.Errorf("%s changes the pairs %d to %d", call, given, list)
		}
	}
}

// spoil changes all numbers of a result, and those that it has room for.
func spoil(list []int) {
	list = list[:cap(list)]
	for i := range list {
		list[i] = -5
	}
}

func TestRelationsShareNoMemory(t *testing.T) {
	for _, text := range []string{"2 2 |", "2 2 | 0 3", "2 2 | 1 2", "1 1 | 0", "3 3 | 0 4 8", "3 3 | 0 1 2 3 4 5 6 7 8", "4 4 | 0 5", "4 4 |", "1 4 | 2"} {
		r, checkStays := roomy(relOf(text))
		back, checkOther := roomy(backPairs(r))
		names, kinds := []string{"a"}, []string{"a", "(* a o)", "(> o a)", "(> a a)"}
		calls := []func() impl.Rel{
			func() impl.Rel { x, _ := impl.RelBack(r); return x },
			func() impl.Rel { x, _ := impl.RelJoin(r, back); return x },
			func() impl.Rel { x, _ := impl.RelJoin(back, r); return x },
			func() impl.Rel { x, _ := impl.RelSame(r.Left); return x },
			func() impl.Rel { x, _ := impl.RelNumber(r.Left, r.Right, 1<<(r.Left*r.Right)-1); return x },
			func() impl.Rel { x, _ := impl.RelGraph(sameSizes(r.Left, r.Right-1), r.Right); return x },
		}
		for _, kind := range kinds {
			calls = append(calls, func() impl.Rel { x, _ := impl.RelLift(kind, names, []impl.Rel{r}); return x })
		}
		for i, call := range calls {
			first := call()
			want := slices.Clone(first.Pairs)
			spoil(first.Pairs)
			if again := call(); !slices.Equal(again.Pairs, want) {
				t.Errorf("call %d for %s returns the pairs %d and then %d", i, text, want, again.Pairs)
			}
			checkStays(t, fmt.Sprint("call ", i))
			checkOther(t, fmt.Sprint("call ", i))
		}
		list, _ := impl.RelFun(r)
		spoil(list)
		impl.RelValid(r)
		impl.RelHas(r, 0, 0)
		impl.Related("(> a a)", names, []impl.Rel{r}, 0, 0)
		checkStays(t, "another call")
	}
	// What is changed behind a call does not change what it has returned.
	list := []int{1, 0, 1}
	graph, _ := impl.RelGraph(list, 2)
	r := relOf("2 2 | 0 3")
	lifted, _ := impl.RelLift("a", []string{"a"}, []impl.Rel{r})
	spoil(list)
	spoil(r.Pairs)
	checkRel(t, "RelGraph of a list that is changed", graph, true, relOf("3 2 | 1 2 5"))
	checkRel(t, "RelLift of a relation that is changed", lifted, true, relOf("2 2 | 0 3"))
}
