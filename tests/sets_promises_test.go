package tests

import (
	"slices"
	"strings"
	"testing"

	"loop.example/parametric/impl"
)

func TestPromise37(t *testing.T) {
	d := dice(37)
	valid := 0
	for range 20000 {
		names, sizes := []string{}, []int{}
		for range d.below(7) {
			names = append(names, []string{"a", "b", "c", "d", "e", "f", "g", "h", "y", "z", "o", "ab"}[min(d.below(14), 9+d.below(3))])
			sizes = append(sizes, []int{0, 1, 2, 3, 4, 5, 1, 2, 3, 4, 1, 2, 3, 4}[d.below(14)])
		}
		if d.below(10) == 0 {
			sizes = append(sizes, 1)
		}
		want := len(names) == len(sizes) && slices.Min(append(sizes, 1)) == 1 && slices.Max(append(sizes, 1)) <= 4
		for i, name := range names {
			want = want && strings.Contains(allLetters, name) && len(name) == 1 && !slices.Contains(names[:i], name)
		}
		if got := impl.ModelValid(names, sizes); got != want {
			t.Errorf("ModelValid(%q, %d) is %v", names, sizes, got)
		}
		truths := impl.SetCount("o", names, sizes)
		if want && truths != 2 || !want && truths != -1 {
			t.Errorf("SetCount of o in %q, %d is %d", names, sizes, truths)
		}
		for _, c := range allLetters {
			size := -1
			if place := slices.Index(names, string(c)); want && place >= 0 {
				size = sizes[place]
			}
			if n := impl.SetCount(string(c), names, sizes); n != size {
				t.Errorf("SetCount of %c in %q, %d is %d and not %d", c, names, sizes, n, size)
			}
		}
		if want {
			valid++
		}
	}
	checkCount(t, "ModelValid holds", valid, 3000)
}

// setCases calls a function for types in models: all types of few atoms in all models of two variables, and larger types.
func setCases(seed int, check func(kind oneType, m *plainModel)) {
	for a := '1'; a <= '4'; a++ {
		for b := '1'; b <= '4'; b++ {
			m := modelOf("a" + string(a) + " b" + string(b))
			for _, kind := range typesUpTo(5, "oab") {
				check(kind, m)
			}
		}
	}
	d := dice(seed)
	for range 4000 {
		kind := d.typeOf(1+2*d.below(9), "oabc")
		check(kind, d.modelFor(kind.String()))
	}
	for range 400 {
		check(d.typeOf(1+2*d.below(20), "oabc"), modelOf([]string{"a1 b1 c1", "c1 b2 a1", "a1 c1", "b1 a3 c1"}[d.below(4)]))
	}
}

func TestPromise38(t *testing.T) {
	known, not := 0, 0
	setCases(38, func(kind oneType, m *plainModel) {
		s := kind.String()
		n := impl.SetCount(s, m.names, m.sizes)
		if n != m.count(kind) {
			t.Errorf("SetCount(%q, %s) is %d and not %d", s, m, n, m.count(kind))
		}
		if n == -1 {
			not++
			return
		}
		known++
		if n < 1 || n > impl.CountMax {
			t.Errorf("SetCount(%q, %s) is %d", s, m, n)
		}
		if left, right, sign, ok := impl.TypeParts(s); ok {
			x, y := impl.SetCount(left, m.names, m.sizes), impl.SetCount(right, m.names, m.sizes)
			if x < 1 || y < 1 || sign == "*" && x*y != n {
				t.Errorf("SetCount(%q, %s) is %d with %d and %d", s, m, n, x, y)
			}
		}
		for i, name := range m.names {
			if whole := "(> " + s + " " + name + ")"; m.sizes[i] == 1 && impl.TypeValid(whole) && impl.SetCount(whole, m.names, m.sizes) != 1 {
				t.Errorf("SetCount(%q, %s) is not 1", whole, m)
			}
		}
	})
	checkCount(t, "SetCount is known", known, 3000)
	checkCount(t, "SetCount is not known", not, 1000)
}

// some returns all numbers less than a count, or some of them if there are many, and those around the ends that are none.
func (d *dice) some(count int) []int {
	all := []int{-1, 0, count - 1, count}
	for k := range min(count, 24) {
		if count > 24 {
			k = d.below(count)
		}
		all = append(all, k)
	}
	return all
}

func TestPromise39(t *testing.T) {
	d := dice(39)
	elements := 0
	setCases(39, func(kind oneType, m *plainModel) {
		s, count := kind.String(), m.count(kind)
		for _, k := range d.some(count) {
			if kind.atom != "*" || k < 0 || k >= count {
				checkNoPair(t, s, twoLists{m.names, m.sizes}, k)
				continue
			}
			elements++
			parts := m.set(kind).list[k]
			checkPair(t, s, m, k, parts[0], parts[1])
			left, right, _, _ := impl.TypeParts(s)
			first, second, _ := impl.SetPair(s, m.names, m.sizes, k)
			x, y := impl.SetCount(left, m.names, m.sizes), impl.SetCount(right, m.names, m.sizes)
			if first < 0 || first >= x || second < 0 || second >= y || first*y+second != k {
				t.Errorf("SetPair(%q, %s, %d) returns %d and %d of %d and %d", s, m, k, first, second, x, y)
			}
		}
	})
	checkCount(t, "SetPair succeeds", elements, 20000)
}

func TestPromise40(t *testing.T) {
	d := dice(40)
	elements := 0
	setCases(40, func(kind oneType, m *plainModel) {
		s, count := kind.String(), m.count(kind)
		for _, k := range d.some(count) {
			if kind.atom != ">" || k < 0 || k >= count {
				checkNoAt(t, s, twoLists{m.names, m.sizes}, k, 0)
				continue
			}
			elements++
			table := []int{}
			for a := range m.count(kind.parts[0]) {
				x, ok := impl.SetAt(s, m.names, m.sizes, k, a)
				if !ok || x != m.set(kind).list[k][a] {
					t.Errorf("SetAt(%q, %s, %d, %d) returns %d, %v", s, m, k, a, x, ok)
				}
				table = append(table, x)
			}
			checkNoAt(t, s, twoLists{m.names, m.sizes}, k, -1)
			checkNoAt(t, s, twoLists{m.names, m.sizes}, k, len(table))
			if x, ok := impl.SetFun(s, m.names, m.sizes, table); !ok || x != k {
				t.Errorf("SetFun(%q, %s, %d) returns %d, %v and not %d", s, m, table, x, ok, k)
			}
		}
	})
	checkCount(t, "SetAt succeeds", elements, 20000)
}

func TestPromise41(t *testing.T) {
	d := dice(41)
	tables := 0
	setCases(41, func(kind oneType, m *plainModel) {
		s, lists := kind.String(), twoLists{m.names, m.sizes}
		if kind.atom != ">" || m.count(kind) < 0 {
			checkNoFun(t, s, lists, []int{0, 0})
			return
		}
		left, right := m.count(kind.parts[0]), m.count(kind.parts[1])
		for range 8 {
			table := []int{}
			for range left {
				table = append(table, d.below(right))
			}
			k := 0
			for place, power := 0, 1; place < left; place, power = place+1, power*right {
				k += table[place] * power
			}
			checkTable(t, s, m, k, table)
			tables++
			table[d.below(left)] = []int{-1, right, right + 1}[d.below(3)]
			checkNoFun(t, s, lists, table)
			checkNoFun(t, s, lists, table[1:])
		}
		checkNoFun(t, s, lists, sameSizes(left+1, 0))
		checkNoFun(t, s, lists, sameSizes(left-1, 0))
	})
	checkCount(t, "SetFun succeeds", tables, 10000)
}

// checkSameMeaning checks that a term that has come of another one by steps means the same, if it has a meaning, and counts how often it has.
func checkSameMeaning(t *testing.T, c meanCase, element int, call string, other string, ok bool, had *int) {
	t.Helper()
	x, known := impl.Mean(other, c.kind, c.model.names, c.model.sizes)
	if !ok || !known {
		return
	}
	*had++
	if x != element {
		t.Errorf("%s of %q is %q, which means %d as one of %q in %s and not %d", call, short(c.x.String()), short(other), x, c.kind, c.model, element)
	}
}

// meant calls a function for terms with the elements that they mean.
func meant(t *testing.T, seed int, check func(c meanCase, element int)) {
	t.Helper()
	found := 0
	for _, c := range meanCases(t, seed) {
		if element, ok := impl.Mean(c.x.String(), c.kind, c.model.names, c.model.sizes); ok {
			found++
			check(c, element)
		}
	}
	checkCount(t, "Mean succeeds", found, 5000)
}

func TestPromise42(t *testing.T) {
	steps, normals := 0, 0
	meant(t, 42, func(c meanCase, element int) {
		s := c.x.String()
		if element < 0 || element >= impl.SetCount(c.kind, c.model.names, c.model.sizes) || !impl.InferHas(s, c.kind) {
			t.Errorf("Mean(%q, %q, %s) is %d", short(s), c.kind, c.model, element)
		}
		step, ok := impl.Step(s)
		checkSameMeaning(t, c, element, "Step", step, ok, &steps)
		normal, ok := impl.NormalOf(s)
		checkSameMeaning(t, c, element, "NormalOf", normal, ok, &normals)
		checkMean(t, c.x, c.kind, c.model)
	})
	checkCount(t, "a term behind a step has a meaning", steps, 2500)
	checkCount(t, "a normal term has a meaning", normals, 5000)
}

func TestPromise43(t *testing.T) {
	steps := 0
	meant(t, 43, func(c meanCase, element int) {
		s := c.x.String()
		for k := range min(impl.RedexCount(s), 12) {
			step, ok := impl.StepInside(s, k)
			checkSameMeaning(t, c, element, "StepInside", step, ok, &steps)
		}
	})
	checkCount(t, "a term behind a step has a meaning", steps, 7000)
}

// checkMeanSame compares MeanSame of a term and another one with what both mean, and checks what is promised of terms that mean the same.
func checkMeanSame(t *testing.T, c meanCase, other string, same *int, not *int) {
	t.Helper()
	s, m := c.x.String(), c.model
	x, ok := impl.Mean(s, c.kind, m.names, m.sizes)
	y, too := impl.Mean(other, c.kind, m.names, m.sizes)
	want := ok && too && x == y
	if impl.MeanSame(s, other, c.kind, m.names, m.sizes) != want || impl.MeanSame(other, s, c.kind, m.names, m.sizes) != want {
		t.Errorf("MeanSame of %q and %q as ones of %q in %s does not hold both ways or does not fit %d and %d", short(s), short(other), c.kind, m, x, y)
	}
	if !want {
		*not++
		return
	}
	*same++
	if !impl.InferHas(s, c.kind) || !impl.InferHas(other, c.kind) {
		t.Errorf("%q or %q does not have the type %q", short(s), short(other), c.kind)
	}
	kind := "(* " + c.kind + " o)"
	first, ok := impl.Mean("(pair "+s+" true)", kind, m.names, m.sizes)
	second, too := impl.Mean("(pair "+other+" true)", kind, m.names, m.sizes)
	if ok && first != 2*x+1 || too && second != 2*x+1 {
		t.Errorf("the pairs of %q and %q with true mean %d and %d", short(s), short(other), first, second)
	}
}

func TestPromise44(t *testing.T) {
	same, not := 0, 0
	d := dice(44)
	byKind := map[string][]string{}
	for i, c := range meanCases(t, 44) {
		s := c.x.String()
		if i%3 > 0 {
			byKind[c.kind] = append(byKind[c.kind], s)
			continue
		}
		normal, _ := impl.NormalOf(s)
		others := []string{normal, s, "true", "(lam x x)"}
		if list := byKind[c.kind]; len(list) > 0 {
			others = append(others, list[d.below(len(list))], list[d.below(len(list))])
		}
		for _, other := range others {
			checkMeanSame(t, c, other, &same, &not)
		}
	}
	checkCount(t, "MeanSame holds", same, 5000)
	checkCount(t, "MeanSame does not hold", not, 5000)
}

func TestPromise45(t *testing.T) {
	held := 0
	d := dice(45)
	byKind := map[string][]string{}
	check := func(c meanCase, other string) {
		s, m := c.x.String(), c.model
		if _, ok := impl.Mean(other, c.kind, m.names, m.sizes); !ok || !impl.TermEqual(s, other) {
			return
		}
		held++
		if !impl.MeanSame(s, other, c.kind, m.names, m.sizes) || !impl.MeanSame(other, s, c.kind, m.names, m.sizes) {
			t.Errorf("%q and %q are equal and do not mean the same as ones of %q in %s", short(s), short(other), c.kind, m)
		}
	}
	meant(t, 45, func(c meanCase, element int) {
		s := c.x.String()
		forms := []string{"(app (lam x x) M)", "(fst (pair M true))", "(snd (pair (lam x x) M))", "(if false M M)", "(let x M x)", "(let x M (fst (pair x x)))", "(app (app (lam x (lam y x)) M) true)"}
		for range 2 {
			check(c, strings.ReplaceAll(forms[d.below(len(forms))], "M", s))
			if list := byKind[c.kind]; len(list) > 0 {
				check(c, list[d.below(len(list))])
			}
		}
		byKind[c.kind] = append(byKind[c.kind], s)
	})
	checkCount(t, "TermEqual holds", held, 8000)
}

func TestPromise46(t *testing.T) {
	d := dice(46)
	applied, truths := 0, 0
	meant(t, 46, func(c meanCase, element int) {
		s, m, kind := c.x.String(), c.model, readType(c.kind)
		if kind.atom != ">" {
			for _, a := range []int{-1, 0, 1} {
				checkNoApp(t, s, c.kind, twoLists{m.names, m.sizes}, a)
			}
			return
		}
		left, right, _, _ := impl.TypeParts(c.kind)
		count, table := impl.SetCount(right, m.names, m.sizes), m.set(kind).list[element]
		some := d.some(len(table))
		for _, a := range some[:min(6, len(some))] {
			if a < 0 || a >= len(table) {
				checkNoApp(t, s, c.kind, twoLists{m.names, m.sizes}, a)
				continue
			}
			applied++
			x, ok := impl.MeanApp(s, c.kind, m.names, m.sizes, a)
			if !ok || x != table[a] || x < 0 || x >= count {
				t.Errorf("MeanApp(%q, %q, %s, %d) returns %d, %v and not %d", short(s), c.kind, m, a, x, ok, table[a])
			}
			if left != "o" {
				continue
			}
			whole := "(app " + s + " " + []string{"false", "true"}[a] + ")"
			if y, ok := impl.Mean(whole, right, m.names, m.sizes); ok {
				truths++
				if x != y {
					t.Errorf("MeanApp(%q, %q, %s, %d) is %d and the application means %d", short(s), c.kind, m, a, x, y)
				}
			}
		}
	})
	checkCount(t, "MeanApp succeeds", applied, 5000)
	checkCount(t, "a term applied to a truth value has a meaning", truths, 2000)
}
