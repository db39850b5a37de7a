package tests

import (
	"fmt"
	"slices"
	"strings"
	"testing"

	"loop.example/parametric/impl"
)

func TestMapTermsByHand(t *testing.T) {
	for _, c := range [][2]string{
		{"a", "(app x0 x1)"}, {"(* a a)", "(pair (app x0 (fst x1)) (app x0 (snd x1)))"}, {"(* a o)", "(pair (app x0 (fst x1)) (snd x1))"}, {"(* o a)", "(pair (fst x1) (app x0 (snd x1)))"}, {"(* (* a o) a)", "(pair (pair (app x0 (fst (fst x1))) (snd (fst x1))) (app x0 (snd x1)))"},
		{"(> o a)", "(lam x2 (app x0 (app x1 x2)))"}, {"(> o (> o a))", "(lam x2 (lam x3 (app x0 (app (app x1 x2) x3))))"}, {"(> o (* o a))", "(lam x2 (pair (fst (app x1 x2)) (app x0 (snd (app x1 x2)))))"},
		// Types without the variable, and inside others the term itself and not its parts.
		{"o", "x1"}, {"(> o o)", "x1"}, {"(* o o)", "x1"}, {"(> (* o o) (> o (* o o)))", "x1"}, {"(* (* o o) a)", "(pair (fst x1) (app x0 (snd x1)))"}, {"(* a (> o o))", "(pair (app x0 (fst x1)) (snd x1))"}, {"(* (* (* o o) (> o o)) a)", "(pair (fst x1) (app x0 (snd x1)))"}, {"(> (* o o) a)", "(lam x2 (app x0 (app x1 x2)))"}, {"(> (> o o) a)", "(lam x2 (app x0 (app x1 x2)))"}, {"(> (> a o) (* o o))", "(lam x2 (app x1 (lam x3 (app x2 (app x0 x3)))))"}, {"(> (> a (> o o)) (> o o))", "(lam x2 (app x1 (lam x3 (app x2 (app x0 x3)))))"},
		// Backs inside forths: of functions, of pairs and of what has no variable.
		{"(> (> a o) o)", "(lam x2 (app x1 (lam x3 (app x2 (app x0 x3)))))"}, {"(> (> a o) a)", "(lam x2 (app x0 (app x1 (lam x3 (app x2 (app x0 x3))))))"}, {"(> (* (> a o) o) a)", "(lam x2 (app x0 (app x1 (pair (lam x3 (app (fst x2) (app x0 x3))) (snd x2)))))"}, {"(> (* (* o o) (> a o)) o)", "(lam x2 (app x1 (pair (fst x2) (lam x3 (app (snd x2) (app x0 x3))))))"}, {"(> (* (> a o) (> a o)) a)", "(lam x2 (app x0 (app x1 (pair (lam x3 (app (fst x2) (app x0 x3))) (lam x4 (app (snd x2) (app x0 x4)))))))"}, {"(> (> o (> a o)) a)", "(lam x2 (app x0 (app x1 (lam x3 (lam x4 (app (app x2 x3) (app x0 x4)))))))"}, {"(> (> (* a o) o) a)", "(lam x2 (app x0 (app x1 (lam x3 (app x2 (pair (app x0 (fst x3)) (snd x3)))))))"}, {"(> (> a (* o o)) a)", "(lam x2 (app x0 (app x1 (lam x3 (app x2 (app x0 x3))))))"}, {"(> (> a (* o (> a o))) o)", "(lam x2 (app x1 (lam x3 (pair (fst (app x2 (app x0 x3))) (lam x4 (app (snd (app x2 (app x0 x3))) (app x0 x4)))))))"},
		// And forths inside these, and backs again.
		{"(> (> (> o a) o) o)", "(lam x2 (app x1 (lam x3 (app x2 (lam x4 (app x0 (app x3 x4)))))))"}, {"(> (> (> (> a o) o) o) o)", "(lam x2 (app x1 (lam x3 (app x2 (lam x4 (app x3 (lam x5 (app x4 (app x0 x5)))))))))"}, {"(> (> (> (> a o) a) o) a)", "(lam x2 (app x0 (app x1 (lam x3 (app x2 (lam x4 (app x0 (app x3 (lam x5 (app x4 (app x0 x5)))))))))))"},
		// Names that are not around each other have the same number, and are told apart by the canonical term alone.
		{"(* (> o a) (> o a))", "(pair (lam x2 (app x0 (app (fst x1) x2))) (lam x3 (app x0 (app (snd x1) x3))))"}, {"(> (> a o) (* a a))", "(lam x2 (pair (app x0 (fst (app x1 (lam x3 (app x2 (app x0 x3)))))) (app x0 (snd (app x1 (lam x4 (app x2 (app x0 x4))))))))"}, {"(> (> a o) (> o a))", "(lam x2 (lam x3 (app x0 (app (app x1 (lam x4 (app x2 (app x0 x4)))) x3))))"}, {"(> (> a o) (> (> a o) o))", "(lam x2 (lam x3 (app (app x1 (lam x4 (app x2 (app x0 x4)))) (lam x5 (app x3 (app x0 x5))))))"},
	} {
		checkMapTerm(t, c[0], "(lam x0 (lam x1 "+c[1]+"))")
	}
}

// checkMapTermOf compares with the map term that the tests make, and tells whether there is one.
func checkMapTermOf(t *testing.T, kind oneType) bool {
	t.Helper()
	want := ""
	if kind.up() {
		if x := plainMapTerm(kind); x.size() <= impl.TermMax {
			want = x.String()
		}
	}
	checkMapTerm(t, kind.String(), want)
	return want != ""
}

func TestMapTerms(t *testing.T) {
	made, deep := 0, 0
	for _, kind := range typesUpTo(9, "oa") {
		if checkMapTermOf(t, kind) {
			made++
		}
	}
	d := dice(81)
	for range 3000 {
		kind := d.standing(11+2*d.below(15), d.below(4) > 0)
		if checkMapTermOf(t, kind) && strings.Count(plainMapTerm(kind).String(), "(lam ") > 8 {
			deep++
		}
	}
	checkCount(t, "small types have map terms", made, 1500)
	checkCount(t, "map terms bind many names", deep, 300)
}

func TestMapTermsThatAreTooLarge(t *testing.T) {
	for _, c := range []struct {
		kind  string
		atoms int
	}{
		{"(> (> (* o a) (> (* (* o a) a) (* (> a o) (> a o)))) (* (* a a) (* o a)))", 299}, {"(> (> (> (> o o) a) (* (* (> a (> o o)) o) o)) (* (* o a) (* (* a (* a o)) a)))", 300}, {around(19, "(* a ", "a", ")"), 292}, {around(18, "(* a ", "(* a a)", ")"), 292},
		{"(> (> (* o a) (> a (* o (> a o)))) (* (* (> o a) (> o (* a a))) (* a (> o (* a a)))))", 301}, {"(> (> (* (* (* a a) a) a) (* o (> (> o a) o))) (* a (* a (* a a))))", 302},
	} {
		kind := readType(c.kind)
		if n := plainMapTerm(kind).size(); n != c.atoms {
			t.Fatalf("the test has a map term of %d atoms for %s", n, c.kind)
		}
		if checkMapTermOf(t, kind) != (c.atoms <= impl.TermMax) {
			t.Errorf("the map term of %s has %d atoms", c.kind, c.atoms)
		}
		if text, ok := impl.MapTerm(c.kind); ok && impl.TermSize(text) != c.atoms {
			t.Errorf("MapTerm(%q) has %d atoms", c.kind, impl.TermSize(text))
		}
	}
	// Pairs of pairs behind functions of functions, which become larger with each of them.
	large := "(* a a)"
	for size := 3; size+12 < impl.TypeMax; size += 12 {
		large = "(> (> " + large + " (* (> a o) (> a o))) (* a a))"
		checkMapTermOf(t, readType(large))
	}
	d := dice(82)
	tooLarge := 0
	for range 1500 {
		if kind := d.standing(35+2*d.below(3), true); !checkMapTermOf(t, kind) {
			tooLarge++
		}
	}
	checkCount(t, "map terms are too large", tooLarge, 50)
}

// truthFunctions are closed terms that are functions of the two numbers, as lists.
func truthFunctions() map[string][]int {
	return map[string][]int{"(lam b b)": {0, 1}, "(lam b (if b false true))": {1, 0}, "(lam b true)": {1, 1}, "(lam b false)": {0, 0}}
}

// With the truth values as the numbers, map terms are applied to functions and to terms. What comes out means what is mapped.
func TestMapTermsApplied(t *testing.T) {
	d := dice(83)
	mapped, changed := 0, 0
	for range 1500 {
		kind := d.standing(1+2*d.below(6), true)
		whole, ok := impl.MapTerm(kind.String())
		truths := kind.put(map[string]oneType{"a": leaf("o")}).String()
		if !ok || sizedModel(2).count(kind) < 0 {
			continue
		}
		x := d.typed(readType(truths), nil, d.below(3)).String()
		before, known := impl.Mean(x, truths, nil, nil)
		for function, f := range truthFunctions() {
			normal, ok := impl.NormalOf("(app (app " + whole + " " + function + ") " + x + ")")
			after, both := impl.Mean(normal, truths, nil, nil)
			if !known || !ok || !both {
				continue
			}
			mapped++
			if before != after {
				changed++
			}
			checkMapElement(t, kind.String(), f, 2, before, after)
		}
	}
	checkCount(t, "the map term is applied", mapped, 3000)
	checkCount(t, "it changes what is mapped", changed, 1000)
}

// Of few types the meaning of the map term is known as a whole, most of them for a first size of 1.
func TestMeaningsOfMapTerms(t *testing.T) {
	found, several := 0, 0
	for _, kind := range typesUpTo(7, "oa") {
		if !kind.up() {
			continue
		}
		s, to := kind.String(), kind.put(map[string]oneType{"a": leaf("b")}).String()
		whole, _ := impl.MapTerm(s)
		for m := 1; m <= 3; m++ {
			for n := 1; n <= impl.SizeMax; n++ {
				names, sizes := []string{"a", "b"}, []int{m, n}
				functions, maps := "(> a b)", "(> "+s+" "+to+")"
				for _, f := range functionsBetween(m, n) {
					of, _ := impl.SetFun(functions, names, sizes, f)
					k, ok := impl.MeanApp(whole, "(> "+functions+" "+maps+")", names, sizes, of)
					if !ok {
						continue
					}
					found++
					if n > 1 && strings.Contains(s, ">") {
						several++
					}
					list := []int{}
					for x := range sizedModel(m).count(kind) {
						y, _ := impl.MapElement(s, f, n, x)
						list = append(list, y)
					}
					if want, ok := impl.SetFun(maps, names, sizes, list); !ok || k != want {
						t.Errorf("the map term of %q means %d for %d, %d and not %d", s, k, f, n, want)
					}
				}
			}
		}
	}
	checkCount(t, "what the map term means is known", found, 300)
	checkCount(t, "for types with functions and sizes above 1", several, 50)
}

func TestNaturalByHand(t *testing.T) {
	for _, c := range []struct {
		from, to    string
		f           []int
		n           int
		left, right string
		want        bool
	}{
		{"a", "a", exchange, 2, "0 1", "0 1", true}, {"a", "a", exchange, 2, "1 0", "1 0", true}, {"a", "a", exchange, 2, "0 0", "1 1", true}, {"a", "a", exchange, 2, "1 0", "0 1", false}, {"a", "a", exchange, 2, "0 0", "0 0", false}, {"a", "a", exchange, 2, "0 1", "1 0", false}, {"a", "a", []int{0, 1}, 2, "1 0", "1 0", true}, {"a", "a", []int{0}, 1, "0", "0", true},
		// To a smaller and to a larger size.
		{"a", "a", merge, 2, "2 2 2", "1 1", true}, {"a", "a", merge, 2, "0 1 2", "0 1", true}, {"a", "a", merge, 2, "1 0 0", "0 0", true}, {"a", "a", merge, 2, "2 2 2", "1 0", false}, {"a", "a", merge, 2, "0 2 2", "0 1", false}, {"a", "a", merge, 2, "0 2 2", "1 1", false}, {"a", "a", third, 3, "0", "0 0 2", true}, {"a", "a", third, 3, "0", "2 2 2", true}, {"a", "a", third, 3, "0", "2 2 0", false}, {"a", "a", []int{0, 2}, 3, "1 0", "2 1 0", true}, {"a", "a", []int{0, 2}, 3, "1 0", "0 2 2", false},
		{"a", "o", exchange, 2, "0 0", "0 0", true}, {"a", "o", exchange, 2, "0 1", "1 0", true}, {"a", "o", exchange, 2, "0 1", "0 1", false}, {"a", "o", merge, 2, "0 0 1", "0 1", true}, {"a", "o", merge, 2, "0 1 1", "0 1", false}, {"o", "a", exchange, 2, "0 1", "1 0", true}, {"o", "a", exchange, 2, "0 1", "0 1", false}, {"o", "a", third, 3, "0 0", "2 2", true}, {"o", "o", third, 3, "1 0", "1 0", true}, {"o", "o", third, 3, "1 0", "0 1", false},
		{"a", "(* a a)", exchange, 2, "0 3", "0 3", true}, {"a", "(* a a)", exchange, 2, "1 2", "1 2", true}, {"a", "(* a a)", exchange, 2, "1 2", "2 1", false}, {"(* a a)", "a", exchange, 2, "0 0 1 1", "0 0 1 1", true}, {"(* a a)", "a", exchange, 2, "0 1 0 1", "0 1 0 1", true}, {"(* a a)", "a", exchange, 2, "0 0 0 1", "0 0 0 1", false}, {"(* a a)", "a", exchange, 2, "0 0 0 1", "0 1 1 1", true}, {"(* a a)", "a", merge, 2, "0 1 2 0 1 2 0 1 2", "0 1 0 1", true}, {"(* a a)", "a", merge, 2, "0 1 2 0 1 2 0 1 2", "0 0 1 1", false},
		{"(> (> a o) o)", "o", []int{0}, 2, "0 1 1 1", "0 0 0 0 0 1 0 0 0 0 1 0 0 0 0 1", true}, {"(> (> a o) o)", "o", []int{0}, 2, "0 1 1 1", "0 0 0 0 0 1 0 0 0 0 0 0 0 0 0 1", false}, {"o", "(> (> a o) o)", exchange, 2, "2 6", "4 6", true}, {"o", "(> (> a o) o)", exchange, 2, "2 6", "2 6", false},
		// What nothing is mapped to may be anything.
		{"a", "a", []int{1}, 3, "0", "0 1 0", true}, {"a", "a", []int{1}, 3, "0", "2 1 2", true}, {"a", "a", []int{1}, 3, "0", "-1 1 7", true}, {"a", "a", []int{0, 0}, 2, "0 1", "0 9", true},
		// Too few numbers, or too many, on either side and on both.
		{"a", "a", exchange, 2, "0", "0 1", false}, {"a", "a", exchange, 2, "0 1", "0", false}, {"a", "a", exchange, 2, "0 1 1", "0 1", false}, {"a", "a", exchange, 2, "0 1", "0 1 1", false}, {"a", "a", exchange, 2, "", "", false}, {"a", "a", exchange, 2, "0 1", "", false}, {"a", "a", exchange, 2, "", "0 1", false}, {"a", "a", exchange, 2, "0 1 0", "0 1 0", false}, {"a", "a", merge, 2, "0 1", "0 1", false}, {"a", "a", merge, 2, "0 1 2", "0 1 1", false}, {"a", "a", third, 3, "0", "2", false}, {"a", "a", third, 3, "0 0 0", "2 2 2", false}, {"o", "a", third, 3, "0 0 0", "2 2 2", false}, {"o", "a", third, 3, "0 0", "2 2 2", false},
		// Numbers that are no elements.
		{"a", "a", exchange, 2, "2 1", "0 1", false}, {"a", "a", exchange, 2, "0 -1", "0 1", false}, {"a", "a", exchange, 2, "0 1", "-1 1", false}, {"a", "a", exchange, 2, "0 1", "0 2", false}, {"a", "a", exchange, 2, "2 2", "2 2", false}, {"a", "a", exchange, 2, "-1 -1", "-1 -1", false}, {"a", "o", exchange, 2, "2 2", "2 2", false}, {"o", "o", third, 3, "0 2", "0 2", false}, {"o", "o", third, 3, "-1 0", "-1 0", false}, {"a", "(* a o)", exchange, 2, "4 0", "2 0", false}, {"a", "a", merge, 2, "0 1 3", "0 1", false}, {"a", "a", []int{0, 1}, 3, "2 1", "2 1 0", false}, {"a", "a", third, 3, "1", "2 2 2", false},
		// Types that are not mapped.
		{"(> a o)", "o", exchange, 2, "0 0 0 0", "0 0 0 0", false}, {"o", "(> a o)", exchange, 2, "0 0", "0 0", false}, {"(> a a)", "o", []int{0}, 1, "0", "0", false}, {"o", "(> a a)", []int{0}, 1, "0 0", "0 0", false}, {"b", "o", []int{0}, 1, "0", "0", false}, {"o", "b", []int{0}, 1, "0 0", "0 0", false}, {"(> (> a o) a)", "o", third, 3, "0", "0", false}, {"o", "(> (> a o) a)", third, 3, "0 0", "0 0", false}, {"o", "", []int{0}, 1, "0 0", "0 0", false}, {"", "o", []int{0}, 1, "0 0", "0 0", false},
	} {
		checkNatural(t, c.from, c.to, c.f, c.n, numbersOf(c.left), numbersOf(c.right), c.want)
	}
}

// plainNatural tells whether two lists, which must be of the right length, are natural.
func (p *plainMap) plainNatural(from oneType, to oneType, left []int, right []int) bool {
	count := p.left.count(to)
	for s, x := range left {
		if x < 0 || x >= count || right[p.forth(from, s)] != p.forth(to, x) {
			return false
		}
	}
	return true
}

// naturalLists returns lists for two types, which are natural if what is mapped to the same element goes together.
func (d *dice) naturalLists(p *plainMap, from oneType, to oneType) ([]int, []int) {
	left, right := []int{}, []int{}
	for range p.left.count(from) {
		left = append(left, d.below(p.left.count(to)))
	}
	for range p.right.count(from) {
		right = append(right, d.below(p.right.count(to)))
	}
	met := map[int]int{}
	for s, x := range left {
		at := p.forth(from, s)
		if first, again := met[at]; again && d.below(20) > 0 {
			x = first
		}
		met[at], left[s], right[at] = x, x, p.forth(to, x)
	}
	return left, right
}

func TestNatural(t *testing.T) {
	d := dice(84)
	natural, not, between := 0, 0, 0
	for range 5000 {
		from, to := d.standing(1+2*d.below(4), true), d.standing(1+2*d.below(4), true)
		f, n := d.functionBetween()
		p := plainMapBy(f, n)
		if x, y, known := p.counts(from); !known || x > 100 || y > 500 {
			continue
		}
		if _, _, known := p.counts(to); !known {
			continue
		}
		left, right := d.naturalLists(p, from, to)
		switch list := [][]int{left, right}[d.below(2)]; d.below(4) {
		case 0:
			list[d.below(len(list))] += []int{-1, 1, 2}[d.below(3)]
		case 1:
			list[d.below(len(list))] = []int{-1, -2, impl.CountMax, 1 << 32}[d.below(4)]
		}
		want := p.plainNatural(from, to, left, right)
		checkNatural(t, from.String(), to.String(), f, n, left, right, want)
		if want {
			natural++
			if len(f) != n && len(from.names()) > 0 {
				between++
			}
		} else {
			not++
		}
	}
	checkCount(t, "lists are natural", natural, 1000)
	checkCount(t, "lists are not natural", not, 1000)
	checkCount(t, "natural lists are between different sizes", between, 200)
}

// twiceRow returns a term with names for functions, each of which has the one before it twice. Unfolded, it has 251 atoms for 5 of them and 507 for 6.
func twiceRow(names int) string {
	s := "(let i0 (lam x x) "
	for k := range names {
		s += fmt.Sprintf("(let i%d (lam y (app i%d (app i%d y))) ", k+1, k, k)
	}
	return s + fmt.Sprint("i", names, strings.Repeat(")", names+1))
}

func TestMapMeansByHand(t *testing.T) {
	many := around(8, "(* o ", "a", ")")
	row := chain(9, "a", "a")
	for _, c := range []struct {
		s, from, to string
		n           int
		want        string
	}{
		{"(lam x x)", "a", "a", 1, "0"}, {"(lam x x)", "a", "a", 2, "0 1"}, {"(lam x x)", "a", "a", 3, "0 1 2"}, {"(lam x x)", "a", "a", 4, "0 1 2 3"}, {"(lam x x)", "o", "o", 4, "0 1"}, {"(lam x x)", "(* a o)", "(* a o)", 2, "0 1 2 3"}, {"(let i (lam z z) (app i i))", "a", "a", 2, "0 1"}, {twiceRow(5), "a", "a", 2, "0 1"},
		{"(lam x true)", "a", "o", 4, "1 1 1 1"}, {"(lam x false)", "(* a o)", "o", 3, "0 0 0 0 0 0"}, {"(lam b (if b false true))", "o", "o", 1, "1 0"}, {"(lam x (pair x x))", "a", "(* a a)", 3, "0 4 8"}, {"(lam x (pair x true))", "a", "(* a o)", 3, "1 3 5"}, {"(lam p (fst p))", "(* a a)", "a", 2, "0 0 1 1"}, {"(lam p (snd p))", "(* a a)", "a", 2, "0 1 0 1"}, {"(lam p (pair (snd p) (fst p)))", "(* a o)", "(* o a)", 2, "0 2 1 3"}, {"(lam p (fst p))", "(* o a)", "o", 3, "0 0 0 1 1 1"},
		// The variable may stand on any side.
		{"(lam f f)", "(> a a)", "(> a a)", 2, "0 1 2 3"}, {"(lam f (lam x x))", "(> a a)", "(> a a)", 2, "2 2 2 2"}, {"(lam f (lam x (app f (app f x))))", "(> a a)", "(> a a)", 2, "0 2 2 3"}, {"(lam f (app f true))", "(> o a)", "a", 2, "0 0 1 1"}, {"(lam x (lam y x))", "a", "(> a a)", 2, "0 3"}, {"(lam p (lam x (if (app p x) false true)))", "(> a o)", "(> a o)", 2, "3 2 1 0"}, {"(lam x (lam p (app p x)))", "a", "(> (> a o) o)", 2, "10 12"},
		// With sets of one element there may be many elements on the left: at most 300, that is 256.
		{"(lam p (snd " + around(7, "(snd ", "p", ")") + "))", many, "a", 1, strings.Repeat("0 ", 256)}, {"(lam x x)", row, row, 1, "0"},
	} {
		checkMapMeans(t, c.s, c.from, c.to, c.n, numbersOf(c.want), true)
		for _, n := range append(badSizes()[1:], impl.SizeMax+1) {
			checkMapMeans(t, c.s, c.from, c.to, n, nil, false)
		}
	}
}

func TestNoMapMeans(t *testing.T) {
	large := around(9, "(* o ", "a", ")")
	row := chain(10, "a", "a")
	for _, c := range []struct {
		s, from, to string
		n           int
	}{
		// Not closed, no term, or without a type.
		{"x", "a", "a", 2}, {"(lam x y)", "a", "a", 2}, {"(app f (lam x x))", "a", "a", 2}, {"", "a", "a", 2}, {"(lam x)", "a", "a", 2}, {"(lam x x) ", "a", "a", 2}, {"(lam x (app x x))", "a", "a", 2}, {"(app true true)", "a", "a", 1}, {around(150, "(lam x ", "x", ")"), "a", "a", 1},
		// Not of the type.
		{"(lam x x)", "a", "o", 2}, {"(lam x x)", "o", "a", 2}, {"true", "a", "a", 2}, {"(lam x true)", "a", "a", 2}, {"(lam x true)", "o", "a", 1}, {"(lam p (fst p))", "(* a o)", "o", 2}, {"(lam p (fst p))", "a", "a", 2}, {"(lam x (lam y x))", "a", "a", 1}, {"(lam b (if b false true))", "a", "o", 2}, {"(pair (lam x x) true)", "a", "a", 2},
		// The type has another variable, or is none as a whole.
		{"(lam x x)", "b", "b", 2}, {"(lam x true)", "b", "o", 2}, {"(lam x true)", "(* a b)", "o", 1}, {"(lam x (lam y y))", "a", "(> b b)", 1}, {"(lam x true)", "a b", "o", 1}, {"(lam x x)", "a a", "", 1}, {"(lam x (lam y x))", "a (> o", "a)", 1}, {"(lam x x)", row, row, 1}, {"(lam x x)", "(> a a", "a)", 1},
		// The meaning is not known: the type has too many elements, on one side or as a whole, or so has a part, or unfolding fails.
		{"(lam x (pair x x))", "a", "(* a a)", 4}, {"(lam f f)", "(> a a)", "(> a a)", 3}, {"(lam x (lam y x))", "a", "(> a a)", 3}, {"(lam x x)", "(> a (> a a))", "(> a (> a a))", 2}, {"(lam x true)", "(* (* a a) (* a o))", "o", 2}, {"(lam x (lam y true))", "a", "(> (* (* a a) (* a o)) o)", 1 + 1}, {"(lam x (fst (pair x (lam f (lam y (lam z (app (app f y) (pair z true))))))))", "o", "o", 1}, {"(lam x (fst (pair x (lam p (lam q (lam r (lam s (if p q (if r s true)))))))))", "a", "a", 2}, {"(let i (lam z z) (app i i))", "a", "a", 3}, {twiceRow(6), "a", "a", 1},
		// More than 300 elements on the left, that is 512.
		{"(lam p (snd " + around(8, "(snd ", "p", ")") + "))", large, "a", 1}, {"(lam x x)", around(12, "(* o ", "a", ")"), around(12, "(* o ", "a", ")"), 1},
	} {
		checkMapMeans(t, c.s, c.from, c.to, c.n, nil, false)
	}
	if x, ok := impl.Mean("(lam p (snd "+around(8, "(snd ", "p", ")")+"))", "(> "+large+" a)", []string{"a"}, []int{1}); !ok || x != 0 {
		t.Errorf("what is not listed means %d, %v", x, ok)
	}
}

func TestWhatMapMeans(t *testing.T) {
	d := dice(85)
	found, not, let := 0, 0, 0
	for range 1500 {
		from, to := d.typeOf(1+2*d.below(3), "oa"), d.typeOf(1+2*d.below(3), "oa")
		kind := node(">", from, to)
		texts, _ := impl.TermsOf(kind.String(), 1+d.below(3))
		if len(texts) == 0 || kind.size() > 9 {
			continue
		}
		x := read(texts[d.below(len(texts))])
		if d.below(3) == 0 {
			x = read("(let i (lam z z) (app i " + x.String() + "))")
			let++
		}
		n := 1 + d.below(4)
		m := sizedModel(n)
		element, known := plainMean(x, kind.String(), m)
		switch {
		case !known || m.count(from) > 300:
			not++
			checkMapMeans(t, x.String(), from.String(), to.String(), n, nil, false)
		case element >= 0:
			found++
			checkMapMeans(t, x.String(), from.String(), to.String(), n, slices.Clone(m.set(kind).list[element]), true)
		}
	}
	checkCount(t, "what a term has is found", found, 350)
	checkCount(t, "nothing is known", not, 300)
	checkCount(t, fmt.Sprint("let is used, of ", found+not), let, 200)
}
