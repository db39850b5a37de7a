package tests

import (
	"fmt"
	"slices"
	"testing"

	"loop.example/parametric/impl"
)

// mapped calls a function for the elements of types that a function between sizes maps forth.
func mapped(t *testing.T, seed int, check func(kind oneType, p *plainMap, x int, y int)) {
	t.Helper()
	d := dice(seed)
	mapCases(seed, func(kind oneType, p *plainMap) {
		if !kind.up() {
			return
		}
		count := impl.SetCount(kind.String(), []string{"a"}, []int{len(p.f)})
		for _, x := range d.some(max(count, 0))[1:] {
			if y, ok := impl.MapElement(kind.String(), p.f, p.n, x); ok {
				check(kind, p, x, y)
			}
		}
	})
}

func TestPromise67(t *testing.T) {
	held, moved := 0, 0
	mapped(t, 67, func(kind oneType, p *plainMap, x int, y int) {
		s := kind.String()
		held++
		if y < 0 || y >= impl.SetCount(s, []string{"a"}, []int{p.n}) {
			t.Errorf("MapElement(%q, %s, %d) returns %d, which is no element", s, p, x, y)
		}
		checkMapElement(t, s, rangeOf(len(p.f)), len(p.f), x, x)
		if x != y && len(p.f) == p.n {
			moved++
		}
	})
	checkCount(t, "MapElement succeeds", held, 15000)
	checkCount(t, "an element does not stay", moved, 2000)
}

func TestPromise68(t *testing.T) {
	d := dice(68)
	held, sizes := 0, 0
	mapped(t, 68, func(kind oneType, p *plainMap, x int, y int) {
		s, k := kind.String(), 1+d.below(4)
		g := d.function(p.n, k)
		z, ok := impl.MapElement(s, g, k, y)
		if !ok {
			return
		}
		held++
		if len(p.f) != p.n && p.n != k && len(kind.names()) > 0 {
			sizes++
		}
		checkMapElement(t, s, after(p.f, g), k, x, z)
	})
	checkCount(t, "both functions map", held, 10000)
	checkCount(t, "with different sizes", sizes, 2000)
}

func TestPromise69(t *testing.T) {
	d := dice(69)
	held, both, moved := 0, 0, 0
	mapCases(69, func(kind oneType, p *plainMap) {
		s, names, m := kind.String(), []string{"a"}, len(p.f)
		left, right := impl.SetCount(s, names, []int{m}), impl.SetCount(s, names, []int{p.n})
		for _, y := range d.some(max(right, 0))[1:] {
			x, ok := impl.MapBack(s, p.f, p.n, y)
			if !ok {
				continue
			}
			held++
			if x < 0 || x >= left {
				t.Errorf("MapBack(%q, %s, %d) returns %d, which is no element", s, p, y, x)
			}
			checkMapBack(t, s, rangeOf(p.n), p.n, y, y)
			functions := "(> " + s + " o)"
			count := impl.SetCount(functions, names, []int{m})
			if count < 0 || impl.SetCount(functions, names, []int{p.n}) < 0 {
				continue
			}
			k := d.below(count)
			made, ok := impl.MapElement(functions, p.f, p.n, k)
			before, _ := impl.SetAt(functions, names, []int{m}, k, x)
			if after, had := impl.SetAt(functions, names, []int{p.n}, made, y); !ok || !had || after != before {
				t.Errorf("MapElement(%q, %s, %d) returns %d, %v, which has %d for %d and not %d as for %d", functions, p, k, made, ok, after, y, before, x)
			}
			both++
			if x != y {
				moved++
			}
		}
	})
	checkCount(t, "MapBack succeeds", held, 15000)
	checkCount(t, "functions from the type are mapped", both, 3000)
	checkCount(t, "for an element that does not stay", moved, 300)
}

func TestPromise70(t *testing.T) {
	held, sizes := 0, 0
	mapCases(70, func(kind oneType, p *plainMap) {
		s := kind.String()
		list, ok := impl.MapList(s, p.f, p.n)
		graph, _ := impl.RelGraph(p.f, p.n)
		lifted, both := impl.RelLift(s, []string{"a"}, []impl.Rel{graph})
		if !ok || !both {
			return
		}
		held++
		if len(p.f) != p.n && len(kind.names()) > 0 {
			sizes++
		}
		of, _ := impl.RelGraph(list, lifted.Right)
		checkRel(t, fmt.Sprintf("RelLift(%q) of the graph of %s", s, p), lifted, true, of)
	})
	checkCount(t, "MapList and RelLift succeed", held, 2000)
	checkCount(t, "the sizes differ", sizes, 800)
}

// What is mapped back is the lifted graph, too, the other way round.
func TestLiftedGraphsBack(t *testing.T) {
	held := 0
	mapCases(71, func(kind oneType, p *plainMap) {
		s := kind.String()
		graph, _ := impl.RelGraph(p.f, p.n)
		lifted, ok := impl.RelLift(s, []string{"a"}, []impl.Rel{graph})
		if !ok || !kind.down() {
			return
		}
		held++
		list := []int{}
		for y := range lifted.Right {
			x, _ := impl.MapBack(s, p.f, p.n, y)
			list = append(list, x)
		}
		of, _ := impl.RelGraph(list, lifted.Left)
		checkRel(t, fmt.Sprintf("RelLift(%q) of the graph of %s", s, p), lifted, true, backPairs(of))
	})
	checkCount(t, "RelLift succeeds", held, 1500)
}

func TestPromise71(t *testing.T) {
	held, not := 0, 0
	mapCases(72, func(kind oneType, p *plainMap) {
		s := kind.String()
		list, ok := impl.MapList(s, p.f, p.n)
		count := impl.SetCount(s, []string{"a"}, []int{len(p.f)})
		if _, first := impl.MapElement(s, p.f, p.n, 0); ok != (first && count <= 300) || ok && len(list) != count {
			t.Errorf("MapList(%q, %s) returns %d elements of %d, %v", s, p, len(list), count, ok)
		}
		if !ok {
			not++
			return
		}
		held++
		for x, y := range list {
			if x < 20 || x > len(list)-3 {
				checkMapElement(t, s, p.f, p.n, x, y)
			}
		}
	})
	checkCount(t, "MapList succeeds", held, 2000)
	checkCount(t, "MapList fails", not, 2000)
}

// positiveTypes returns all types of few atoms and some larger ones in which the variable stands nowhere negative.
func positiveTypes(seed int) []oneType {
	all := slices.DeleteFunc(typesUpTo(7, "oa"), func(kind oneType) bool { return !kind.up() })
	d := dice(seed)
	for range 600 {
		all = append(all, d.standing(9+2*d.below(8), true))
	}
	return all
}

func TestPromise72(t *testing.T) {
	held, meant := 0, 0
	for _, kind := range positiveTypes(72) {
		s, to := kind.String(), kind.put(map[string]oneType{"a": leaf("b")}).String()
		text, ok := impl.MapTerm(s)
		if !ok {
			continue
		}
		if canon, _ := impl.TermCanon(text); canon != text {
			t.Errorf("MapTerm(%q) returns %q, and not %q", s, text, canon)
		}
		whole := "(> (> a b) (> " + s + " " + to + "))"
		if !impl.TypeValid(whole) {
			continue
		}
		held++
		if !impl.InferHas(text, whole) {
			t.Errorf("MapTerm(%q) returns %q, which has not the type %q", s, text, whole)
		}
		names, sizes := []string{"a", "b"}, []int{2, 2}
		exchanges, _ := impl.SetFun("(> a b)", names, sizes, exchange)
		if k, ok := impl.MeanApp(text, whole, names, sizes, exchanges); ok {
			meant++
			list, _ := impl.MapList(s, exchange, 2)
			if want, _ := impl.SetFun("(> "+s+" "+to+")", names, sizes, list); k != want {
				t.Errorf("the map term of %q has %d for the function that exchanges both numbers, and not %d", s, k, want)
			}
		}
	}
	checkCount(t, "the map term has the type", held, 300)
	checkCount(t, "its meaning is known", meant, 2)
}

func TestPromise73(t *testing.T) {
	d := dice(73)
	held := 0
	for _, kind := range positiveTypes(73) {
		truths := kind.put(map[string]oneType{"a": leaf("o")}).String()
		texts, _ := impl.TermsOf(truths, 1+d.below(3))
		whole, ok := impl.MapTerm(kind.String())
		for range min(6, len(texts)) {
			x := texts[d.below(len(texts))]
			normal, normalOk := impl.NormalOf("(app (app " + whole + " (lam x x)) " + x + ")")
			before, known := impl.Mean(x, truths, nil, nil)
			after, both := impl.Mean(normal, truths, nil, nil)
			if !ok || !normalOk || !known || !both {
				continue
			}
			held++
			if before != after {
				t.Errorf("the map term of %q, the identity and %q mean %d and not %d", kind, x, after, before)
			}
		}
	}
	checkCount(t, "both have meanings", held, 800)
}

func TestPromise74(t *testing.T) {
	d := dice(74)
	held, not := 0, 0
	for range 5000 {
		from, to := d.standing(1+2*d.below(3), true), d.standing(1+2*d.below(3), true)
		f, n := d.functionBetween()
		p := plainMapBy(f, n)
		x, y, known := p.counts(from)
		if _, _, both := p.counts(to); !known || !both || x > 100 || y > 500 {
			continue
		}
		left, right := d.naturalLists(p, from, to)
		switch d.below(8) {
		case 0:
			left = append(left, left[0])
		case 1:
			left = left[:len(left)-1]
		case 2:
			right = append(right, right[0])
		case 3:
			right = right[:len(right)-1]
		}
		holds := impl.MapNatural(from.String(), to.String(), f, n, left, right)
		if !holds {
			not++
			continue
		}
		held++
		if len(left) != x || len(right) != y {
			t.Errorf("MapNatural(%q, %q, %s) holds for %d and %d", from, to, p, left, right)
		}
		checkNatural(t, from.String(), to.String(), f, n, left, append(right, right[0]), false)
	}
	checkCount(t, "MapNatural holds", held, 500)
	checkCount(t, "MapNatural does not hold", not, 1000)
}

func TestPromise75(t *testing.T) {
	held, told, between := 0, 0, 0
	d := dice(75)
	parts := slices.DeleteFunc(typesUpTo(5, "oa"), func(kind oneType) bool { return !kind.up() })
	for range 6000 {
		from, to := parts[d.below(len(parts))], parts[d.below(len(parts))]
		s, k := from.String(), to.String()
		texts, _ := impl.TermsOf(node(">", from, to).String(), 1+d.below(3))
		f, n := d.functionBetween()
		_, fromOk := impl.MapList(s, f, n)
		_, toOk := impl.MapList(k, f, n)
		for range min(3, len(texts)) {
			x := texts[d.below(len(texts))]
			left, ok := impl.MapMeans(x, s, k, len(f))
			right, both := impl.MapMeans(x, s, k, n)
			if !ok || !both || !fromOk || !toOk {
				continue
			}
			held++
			if len(f) != n && len(from.names())+len(to.names()) > 0 {
				between++
			}
			checkNatural(t, s, k, f, n, left, right, true)
			// Another list is natural only if the number that differs is of no account.
			left[d.below(len(left))] = d.below(impl.SetCount(k, []string{"a"}, []int{len(f)}))
			if want := plainMapBy(f, n).plainNatural(from, to, left, right); !want {
				told++
				checkNatural(t, s, k, f, n, left, right, false)
			}
		}
	}
	checkCount(t, "what a term means is natural", held, 800)
	checkCount(t, "between different sizes", between, 200)
	checkCount(t, "another list is not natural", told, 300)
}
