package tests

import (
	"fmt"
	"math"
	"slices"
	"strings"
	"testing"

	"loop.example/parametric/impl"
)

func TestConstantsOfSets(t *testing.T) {
	if impl.CountMax != 4096 || impl.SizeMax != 4 {
		t.Errorf("the constants are %d and %d", impl.CountMax, impl.SizeMax)
	}
}

func sameSizes(count int, size int) []int {
	return slices.Repeat([]int{size}, count)
}

// A twoLists are names and sizes that may be a model.
type twoLists struct {
	names []string
	sizes []int
}

func goodLists() []twoLists {
	every := strings.Split(allLetters, "")
	last := strings.Split("zyxwvutsrqpnmlkjihgfedcba", "")
	return []twoLists{
		{nil, nil}, {[]string{}, []int{}}, {nil, []int{}}, {[]string{}, nil}, {[]string{"a"}, []int{1}}, {[]string{"a"}, []int{2}}, {[]string{"a"}, []int{3}}, {[]string{"a"}, []int{4}}, {[]string{"z"}, []int{4}}, {[]string{"n", "p"}, []int{1, 4}}, {[]string{"p", "n"}, []int{4, 1}}, {[]string{"c", "a", "b"}, []int{2, 2, 2}},
		{every, sameSizes(25, 1)}, {every, sameSizes(25, impl.SizeMax)}, {last, sameSizes(25, 2)}, {every[:24], sameSizes(24, 3)},
	}
}

// badLists returns lists that are no model. As there are 25 variables, one of PutsMax names always stands twice or is none.
func badLists() []twoLists {
	bad := []twoLists{
		{[]string{"a"}, nil}, {nil, []int{2}}, {[]string{"a", "b"}, []int{2}}, {[]string{"a"}, []int{2, 2}}, {[]string{"a", "b", "c"}, []int{1, 2}}, {[]string{"a"}, []int{2, 0}}, {[]string{}, []int{0}},
		{[]string{"a", "a"}, []int{2, 2}}, {[]string{"a", "a"}, []int{2, 3}}, {[]string{"a", "b", "a"}, []int{1, 2, 3}}, {[]string{"b", "z", "c", "z"}, []int{1, 1, 1, 1}},
		{[]string{"a", "b"}, []int{2, 5}}, {[]string{"a", "b"}, []int{0, 2}}, {[]string{"a", "b"}, []int{-1, 2}}, {[]string{"o"}, []int{2}}, {[]string{"a", "o"}, []int{2, 2}},
	}
	for _, size := range []int{0, -1, -2, impl.SizeMax + 1, impl.SizeMax + 2, 257, 4294967297, math.MaxInt, math.MinInt} {
		bad = append(bad, twoLists{[]string{"a"}, []int{size}})
	}
	for _, name := range append(badTypes(), "(> a b)", "(* a a)", "x0", "lam") {
		bad = append(bad, twoLists{[]string{name}, []int{2}}, twoLists{[]string{"a", name}, []int{2, 2}})
	}
	for _, more := range []string{"o", "a", "z", "", "aa"} {
		names := append(strings.Split(allLetters, ""), more)
		bad = append(bad, twoLists{names, sameSizes(impl.PutsMax, 2)}, twoLists{append([]string{more}, names[:25]...), sameSizes(impl.PutsMax, 1)}, twoLists{append(names, "b"), sameSizes(impl.PutsMax+1, 2)})
	}
	return append(bad, twoLists{slices.Repeat([]string{"a"}, 100000), sameSizes(100000, 2)})
}

// checkNoCount checks that nothing is told of a text as a type in a model.
func checkNoCount(t *testing.T, s string, lists twoLists) {
	t.Helper()
	if n := impl.SetCount(s, lists.names, lists.sizes); n != -1 {
		t.Errorf("SetCount(%q, %q, %d) is %d", short(s), lists.names, lists.sizes, n)
	}
	for _, k := range []int{-1, 0, 1, 2} {
		checkNoPair(t, s, lists, k)
		checkNoAt(t, s, lists, k, 0)
		checkNoAt(t, s, lists, 0, k)
	}
	for _, list := range [][]int{nil, {0}, {0, 0}, {1, 1}, {0, 0, 0}} {
		checkNoFun(t, s, lists, list)
	}
}

func checkNoPair(t *testing.T, s string, lists twoLists, k int) {
	t.Helper()
	if x, y, ok := impl.SetPair(s, lists.names, lists.sizes, k); ok || x != 0 || y != 0 {
		t.Errorf("SetPair(%q, %q, %d, %d) returns %d, %d, %v", short(s), lists.names, lists.sizes, k, x, y, ok)
	}
}

func checkNoAt(t *testing.T, s string, lists twoLists, k int, a int) {
	t.Helper()
	if x, ok := impl.SetAt(s, lists.names, lists.sizes, k, a); ok || x != 0 {
		t.Errorf("SetAt(%q, %q, %d, %d, %d) returns %d, %v", short(s), lists.names, lists.sizes, k, a, x, ok)
	}
}

func checkNoFun(t *testing.T, s string, lists twoLists, list []int) {
	t.Helper()
	if x, ok := impl.SetFun(s, lists.names, lists.sizes, list); ok || x != 0 {
		t.Errorf("SetFun(%q, %q, %d, %d) returns %d, %v", short(s), lists.names, lists.sizes, list, x, ok)
	}
}

// checkNoMean checks that a text means nothing as one of a type in a model.
func checkNoMean(t *testing.T, s string, kind string, lists twoLists) {
	t.Helper()
	if x, ok := impl.Mean(s, kind, lists.names, lists.sizes); ok || x != 0 {
		t.Errorf("Mean(%q, %q, %q, %d) returns %d, %v", short(s), short(kind), lists.names, lists.sizes, x, ok)
	}
	for _, other := range []string{s, "true", "(lam x x)"} {
		if impl.MeanSame(s, other, kind, lists.names, lists.sizes) || impl.MeanSame(other, s, kind, lists.names, lists.sizes) {
			t.Errorf("MeanSame(%q, %q, %q, %q, %d) holds", short(s), other, short(kind), lists.names, lists.sizes)
		}
	}
	for _, a := range []int{-1, 0, 1, 2} {
		checkNoApp(t, s, kind, lists, a)
	}
}

func checkNoApp(t *testing.T, s string, kind string, lists twoLists, a int) {
	t.Helper()
	if x, ok := impl.MeanApp(s, kind, lists.names, lists.sizes, a); ok || x != 0 {
		t.Errorf("MeanApp(%q, %q, %q, %d, %d) returns %d, %v", short(s), short(kind), lists.names, lists.sizes, a, x, ok)
	}
}

func TestListsThatAreModels(t *testing.T) {
	for _, lists := range goodLists() {
		if !impl.ModelValid(lists.names, lists.sizes) {
			t.Errorf("ModelValid(%q, %d) does not hold", lists.names, lists.sizes)
		}
		if n := impl.SetCount("(> o (* o o))", lists.names, lists.sizes); n != 16 {
			t.Errorf("SetCount in %q, %d is %d", lists.names, lists.sizes, n)
		}
		if x, ok := impl.Mean("(lam x x)", "(> o o)", lists.names, lists.sizes); !ok || x != 2 {
			t.Errorf("Mean in %q, %d returns %d, %v", lists.names, lists.sizes, x, ok)
		}
	}
	for _, lists := range badLists() {
		if impl.ModelValid(lists.names, lists.sizes) {
			t.Errorf("ModelValid(%.100q, %.100d) holds", lists.names, lists.sizes)
		}
		for _, kind := range []string{"o", "a", "(* o o)", "(> o o)", "(> o (> o o))"} {
			checkNoCount(t, kind, lists)
			checkNoMean(t, "true", kind, lists)
			checkNoMean(t, "(lam x x)", kind, lists)
			checkNoMean(t, "(pair true true)", kind, lists)
		}
	}
}

func TestCountsByHand(t *testing.T) {
	// Behind each model are types with their counts, -1 if they are not known.
	for _, line := range []string{
		"| o 2, (* o o) 4, (> o o) 4, (> o (> o o)) 16, (> (> o o) o) 16, (> (* o o) (* o o)) 256, (> (> o o) (> o o)) 256, (* (* o o) (> o o)) 16, a -1, (> a o) -1, (> o a) -1, (* o (> o z)) -1",
		"a2 | a 2, o 2, (> a a) 4, (> a (> a a)) 16, (* a o) 4, (> (> a a) (> a a)) 256, b -1, (* a b) -1, (> b a) -1, (> a b) -1, (> (> (> a a) a) a) -1, (> (> (> a a) o) b) -1",
		"a3 | a 3, (> a a) 27, (> a o) 8, (> o a) 9, (* a a) 9, (* o a) 6, (> a (> a a)) -1, (> a (* a o)) 216, (> (> a o) o) 256, (> (> a o) a) -1, (> (* a o) o) 64, (> (* o a) a) 729",
		"a4 | a 4, (> a a) 256, (> a (> a a)) -1, (> a (> a o)) -1, (> a o) 16, (> (> a o) o) -1, (> a (* o o)) 256, (* (> a a) (> a o)) 4096, (* (> a a) (* a a)) 4096, (> o (> o a)) 256",
		"a2 b3 | (> a b) 9, (> b a) 8, (* a b) 6, (* b a) 6, (> (* a b) a) 64, (> (* a b) b) 729, (> b (> a b)) 729, (> (> a b) a) 512, (> (> b a) a) 256, (> (> a b) b) -1, (> (* a b) (* b a)) -1",
		"b3 z4 a1 | (> b z) 64, (> z b) 81, (> a z) 4, (> z a) 1, (* a (* b z)) 12, (> (* b z) a) 1, (> (* b z) o) 4096, (> (* b z) b) -1",
		// Sets of one element.
		"a1 | a 1, (> a a) 1, (* a a) 1, (> a o) 2, (> o a) 1, (* a o) 2, (> (> (> o o) (> o o)) a) 1, (> (> (* o (* o (* o o))) o) a) -1, (> a (> a (> a o))) 2, (> (> o a) (> a o)) 2, (> (> (> a a) a) a) 1",
		// Just CountMax, and more. Between both there is no count, as each one is made of twos and threes.
		"a3 b4 | (> (* a b) o) 4096, (> a (> b o)) 4096, (> o (> o (> a o))) 4096, (* (> b b) (* b b)) 4096, (> a (* b b)) 4096, (* o (> (* a b) o)) -1, (* (> (* a b) o) o) -1, (* o (* a (> (* o a) a))) -1, (* (* a (> (* o a) a)) o) -1, (* a (> (* o a) a)) 2187, (> (* o (* o b)) o) -1",
		"a1 b2 c3 d4 | (* a (> (* c d) o)) 4096, (* (> (* c d) o) a) 4096, (> a (> (* c d) o)) 4096, (> (> (* c d) o) a) 1, (> (> (* c d) b) (* a a)) 1, (> (> (* c d) c) a) -1, (> b (> c (* d d))) -1, (> (* b c) (> b o)) 4096, (> (* b c) (* b o)) 4096, (> (* b c) (* d b)) -1",
		// A part has so large a count that the numbers of the computer cannot hold it, and the whole would be small.
		"a1 c3 d4 | (> (> (> (* c d) o) o) a) -1, (* a (> (> (* c d) o) o)) -1, (* (> (> (* c d) o) (> (* c d) o)) a) -1, (> a (> (> (* c d) o) o)) -1, (> (* a (> (> c o) d)) a) -1, (> (> (> (> c d) o) a) a) -1, (> (* o (> (* c d) o)) a) -1, (> o (> (* o (> (* c d) o)) a)) -1, (* (> (> (> c d) o) a) o) -1, (> (* (> c d) (> c d)) a) 1, (> (* (> c d) (* o (> c d))) a) -1",
	} {
		model, kinds, _ := strings.Cut(line, "|")
		m := modelOf(model)
		for _, kind := range strings.Split(kinds, ", ") {
			kind, want, n := strings.TrimSpace(kind), "", 0
			cut := strings.LastIndex(kind, " ")
			kind, want = kind[:cut], kind[cut+1:]
			fmt.Sscan(want, &n)
			if got := impl.SetCount(kind, m.names, m.sizes); got != n {
				t.Errorf("SetCount(%q, %s) is %d and not %d", kind, m, got, n)
			}
			if n < 0 {
				checkNoCount(t, kind, twoLists{m.names, m.sizes})
			}
		}
	}
}

// checkTable checks a table of a type of functions in a model, both ways.
func checkTable(t *testing.T, kind string, m *plainModel, k int, table []int) {
	t.Helper()
	given := slices.Clone(table)
	if x, ok := impl.SetFun(kind, m.names, m.sizes, given); !ok || x != k || !slices.Equal(given, table) {
		t.Errorf("SetFun(%q, %s, %d) returns %d, %v and not %d, and the list becomes %d", kind, m, table, x, ok, k, given)
	}
	for a, want := range table {
		if x, ok := impl.SetAt(kind, m.names, m.sizes, k, a); !ok || x != want {
			t.Errorf("SetAt(%q, %s, %d, %d) returns %d, %v and not %d", kind, m, k, a, x, ok, want)
		}
	}
}

func checkPair(t *testing.T, kind string, m *plainModel, k int, first int, second int) {
	t.Helper()
	if x, y, ok := impl.SetPair(kind, m.names, m.sizes, k); !ok || x != first || y != second {
		t.Errorf("SetPair(%q, %s, %d) returns %d, %d, %v and not %d, %d", kind, m, k, x, y, ok, first, second)
	}
}

func TestElementsByHand(t *testing.T) {
	for _, c := range []struct {
		kind  string
		model string
		k     int
		table []int
	}{
		{"(> o o)", "", 0, []int{0, 0}}, {"(> o o)", "", 1, []int{1, 0}}, {"(> o o)", "", 2, []int{0, 1}}, {"(> o o)", "", 3, []int{1, 1}}, {"(> a (> a a))", "a2", 12, []int{0, 3}}, {"(> a (> a a))", "a2", 9, []int{1, 2}}, {"(> a a)", "a3", 21, []int{0, 1, 2}}, {"(> a a)", "a3", 5, []int{2, 1, 0}}, {"(> a b)", "a2 b3", 7, []int{1, 2}}, {"(> b a)", "a2 b3", 6, []int{0, 1, 1}},
		{"(> (> o o) o)", "", 4, []int{0, 0, 1, 0}}, {"(> (* a b) o)", "a3 b4", 4095, sameSizes(12, 1)}, {"(> (* a b) o)", "a3 b4", 2049, []int{1, 0, 0, 0, 0, 0, 0, 0, 0, 0, 0, 1}}, {"(> o (* o a))", "a3", 32, []int{2, 5}}, {"(> a b)", "a4 b4", 228, []int{0, 1, 2, 3}}, {"(> a b)", "a4 b4", 27, []int{3, 2, 1, 0}},
		// To and from sets of one element.
		{"(> a a)", "a1", 0, []int{0}}, {"(> b a)", "a1 b4", 0, []int{0, 0, 0, 0}}, {"(> a b)", "a1 b4", 3, []int{3}}, {"(> a b)", "a1 b4", 0, []int{0}}, {"(> (> (* c d) o) a)", "a1 c3 d4", 0, sameSizes(4096, 0)}, {"(> a (> (* c d) o))", "a1 c3 d4", 4095, []int{4095}}, {"(> a (> (* c d) o))", "a1 c3 d4", 1234, []int{1234}}, {"(> (* a a) (* a a))", "a1", 0, []int{0}}, {"(> (* d (* d d)) (> d a))", "a1 d4", 0, sameSizes(64, 0)},
	} {
		checkTable(t, c.kind, modelOf(c.model), c.k, c.table)
	}
	for _, c := range []struct {
		kind   string
		model  string
		k      int
		first  int
		second int
	}{
		{"(* o o)", "", 0, 0, 0}, {"(* o o)", "", 1, 0, 1}, {"(* o o)", "", 2, 1, 0}, {"(* o o)", "", 3, 1, 1}, {"(* a b)", "a2 b3", 2, 0, 2}, {"(* a b)", "a2 b3", 3, 1, 0}, {"(* a b)", "a2 b3", 5, 1, 2}, {"(* b a)", "a2 b3", 3, 1, 1}, {"(* b a)", "a2 b3", 5, 2, 1}, {"(* (* o o) o)", "", 5, 2, 1}, {"(* o (* o o))", "", 5, 1, 1}, {"(* (> a a) o)", "a3", 43, 21, 1}, {"(* o (> a a))", "a3", 48, 1, 21},
		{"(* a a)", "a1", 0, 0, 0}, {"(* a b)", "a1 b4", 3, 0, 3}, {"(* b a)", "a1 b4", 3, 3, 0}, {"(* a (> (* c d) o))", "a1 c3 d4", 4095, 0, 4095}, {"(* (> (* c d) o) a)", "a1 c3 d4", 4095, 4095, 0}, {"(* (> b b) (* b b))", "b4", 4000, 250, 0},
	} {
		checkPair(t, c.kind, modelOf(c.model), c.k, c.first, c.second)
	}
}

func TestElementsThatAreNone(t *testing.T) {
	for _, c := range []struct{ kind, model string }{{"(> o o)", ""}, {"(> a b)", "a2 b3"}, {"(> b a)", "a2 b3"}, {"(> a a)", "a1"}, {"(> a b)", "a1 b4"}, {"(> b a)", "a1 b4"}, {"(> (* a b) o)", "a3 b4"}, {"(> (> (* c d) o) a)", "a1 c3 d4"}, {"(> a (> (* c d) o))", "a1 c3 d4"}, {"(* o o)", ""}, {"(* a b)", "a2 b3"}, {"(* a a)", "a1"}, {"(* a b)", "a1 b4"}, {"(* (> b b) (* b b))", "b4"}} {
		m, kind := modelOf(c.model), readType(c.kind)
		lists, count := twoLists{m.names, m.sizes}, m.count(kind)
		left, right := m.count(kind.parts[0]), m.count(kind.parts[1])
		for _, k := range []int{math.MinInt, -4096, -2, -1, count, count + 1, 2 * count, 4097, math.MaxInt} {
			checkNoPair(t, c.kind, lists, k)
			checkNoAt(t, c.kind, lists, k, 0)
		}
		for _, a := range []int{math.MinInt, -left, -1, left, left + 1, 2 * left, 4097, math.MaxInt} {
			checkNoAt(t, c.kind, lists, 0, a)
			checkNoAt(t, c.kind, lists, count-1, a)
		}
		for _, length := range []int{0, left - 1, left + 1, 2 * left, 10000} {
			checkNoFun(t, c.kind, lists, sameSizes(length, 0))
		}
		for _, x := range []int{math.MinInt, -right, -1, right, right + 1, math.MaxInt} {
			first, last := sameSizes(left, 0), sameSizes(left, right-1)
			first[0], last[left-1] = x, x
			checkNoFun(t, c.kind, lists, first)
			checkNoFun(t, c.kind, lists, last)
		}
	}
	// Types that have no such elements at all.
	for _, s := range []string{"o", "a", "(* o o)", "(* a a)", "(* (> o o) (> o o))"} {
		checkNoAt(t, s, twoLists{[]string{"a"}, []int{2}}, 0, 0)
		for _, list := range [][]int{nil, {0}, {0, 0}, {0, 0, 0, 0}} {
			checkNoFun(t, s, twoLists{[]string{"a"}, []int{2}}, list)
		}
	}
	for _, s := range []string{"o", "a", "(> o o)", "(> a a)", "(> (* o o) (* o o))"} {
		checkNoPair(t, s, twoLists{[]string{"a"}, []int{2}}, 0)
	}
}

func TestSetsOfTextsThatAreNoTypes(t *testing.T) {
	for _, kind := range badTypes() {
		for _, lists := range []twoLists{{nil, nil}, {[]string{"a", "b", "c"}, []int{1, 1, 1}}} {
			checkNoCount(t, kind, lists)
			checkNoMean(t, "true", kind, lists)
			checkNoMean(t, "(lam x x)", kind, lists)
		}
	}
	// All texts of few atoms that are types have a count, if the model has their variables.
	for _, kind := range typesUpTo(5, "oab") {
		for _, model := range []string{"a1 b2", "b3 a4", "a2", ""} {
			m := modelOf(model)
			if n := impl.SetCount(kind.String(), m.names, m.sizes); n != m.count(kind) {
				t.Errorf("SetCount(%q, %s) is %d and not %d", kind, m, n, m.count(kind))
			}
		}
	}
}
