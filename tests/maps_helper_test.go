package tests

import (
	"fmt"
	"math"
	"slices"
	"testing"

	"loop.example/parametric/impl"
)

// A plainMap maps elements for one size to elements for another one, by what they are made of.
type plainMap struct {
	f     []int
	n     int
	left  *plainModel
	right *plainModel
}

// sizedModels are the models of the variable a, by its size, so that the elements of a type are listed just once.
var sizedModels = map[int]*plainModel{}

func sizedModel(n int) *plainModel {
	if sizedModels[n] == nil {
		sizedModels[n] = modelOf(fmt.Sprint("a", n))
	}
	return sizedModels[n]
}

func plainMapBy(f []int, n int) *plainMap {
	return &plainMap{f, n, sizedModel(len(f)), sizedModel(n)}
}

func (p *plainMap) String() string {
	return fmt.Sprintf("%d, %d", p.f, p.n)
}

// counts returns the counts of a type for both sizes, and whether both are known.
func (p *plainMap) counts(kind oneType) (int, int, bool) {
	x, y := p.left.count(kind), p.right.count(kind)
	return x, y, x >= 0 && y >= 0
}

func (p *plainMap) forth(kind oneType, x int) int {
	if len(kind.parts) == 0 {
		if kind.atom == "a" {
			return p.f[x]
		}
		return x
	}
	of, result := p.left.set(kind).list[x], []int{}
	if kind.atom == "*" {
		result = append(result, p.forth(kind.parts[0], of[0]), p.forth(kind.parts[1], of[1]))
	} else {
		for s := range p.right.count(kind.parts[0]) {
			result = append(result, p.forth(kind.parts[1], of[p.back(kind.parts[0], s)]))
		}
	}
	return p.right.set(kind).find[fmt.Sprint(result)]
}

func (p *plainMap) back(kind oneType, y int) int {
	if len(kind.parts) == 0 {
		return y
	}
	of, result := p.right.set(kind).list[y], []int{}
	if kind.atom == "*" {
		result = append(result, p.back(kind.parts[0], of[0]), p.back(kind.parts[1], of[1]))
	} else {
		for s := range p.left.count(kind.parts[0]) {
			result = append(result, p.back(kind.parts[1], of[p.forth(kind.parts[0], s)]))
		}
	}
	return p.left.set(kind).find[fmt.Sprint(result)]
}

// plainForth returns the forth of a term for a type, with a number of new names around it.
func plainForth(kind oneType, x oneTerm, given int) oneTerm {
	switch {
	case len(kind.names()) == 0:
		return x
	case kind.atom == "a":
		return made("app", word("f"), x)
	case kind.atom == "*":
		return made("pair", plainForth(kind.parts[0], made("fst", x), given), plainForth(kind.parts[1], made("snd", x), given))
	}
	y := fmt.Sprint("y", given)
	return lam(y, plainForth(kind.parts[1], made("app", x, plainBack(kind.parts[0], word(y), given+1)), given+1))
}

func plainBack(kind oneType, x oneTerm, given int) oneTerm {
	switch {
	case len(kind.names()) == 0:
		return x
	case kind.atom == "*":
		return made("pair", plainBack(kind.parts[0], made("fst", x), given), plainBack(kind.parts[1], made("snd", x), given))
	}
	y := fmt.Sprint("y", given)
	return lam(y, plainBack(kind.parts[1], made("app", x, plainForth(kind.parts[0], word(y), given+1)), given+1))
}

// plainMapTerm returns the map term of a type in which the variable stands nowhere negative. It may be too large for a term.
func plainMapTerm(kind oneType) oneTerm {
	return lam("f", lam("x", plainForth(kind, word("x"), 0))).canon()
}

// up tells whether the variable stands nowhere negative, and down whether it stands nowhere positive.
func (t oneType) up() bool {
	_, negative := signsOf(t, "a")
	return negative == 0
}

func (t oneType) down() bool {
	positive, _ := signsOf(t, "a")
	return positive == 0
}

// standing returns a type in which the variable stands on one side only.
func (d *dice) standing(atoms int, positive bool) oneType {
	if atoms == 1 {
		if positive && d.below(3) > 0 {
			return leaf("a")
		}
		return leaf("o")
	}
	left := 1 + 2*d.below((atoms-1)/2)
	sign := []string{">", "*"}[d.below(2)]
	return node(sign, d.standing(left, positive == (sign == "*")), d.standing(atoms-1-left, positive))
}

// functionsBetween returns all functions of the numbers less than a size to those less than another one.
func functionsBetween(m int, n int) [][]int {
	all := [][]int{{}}
	for range m {
		longer := [][]int{}
		for _, f := range all {
			for number := range n {
				longer = append(longer, append(slices.Clone(f), number))
			}
		}
		all = longer
	}
	return all
}

// function returns a function between two sizes.
func (d *dice) function(m int, n int) []int {
	f := []int{}
	for range m {
		f = append(f, d.below(n))
	}
	return f
}

// functionBetween returns a function between sizes, mostly small ones.
func (d *dice) functionBetween() ([]int, int) {
	sizes := []int{1, 1, 2, 2, 2, 3, 3, 4}
	m, n := sizes[d.below(8)], sizes[d.below(8)]
	return d.function(m, n), n
}

// after returns the function that is one and then another one.
func after(f []int, g []int) []int {
	both := []int{}
	for _, number := range f {
		both = append(both, g[number])
	}
	return both
}

// mapCases calls a function for types with functions: all types of few atoms with all functions of small sizes, and larger ones, in most of which the variable stands on one side only.
func mapCases(seed int, check func(kind oneType, p *plainMap)) {
	for _, kind := range typesUpTo(5, "oa") {
		for m := 1; m <= 3; m++ {
			for n := 1; n <= 3; n++ {
				for _, f := range functionsBetween(m, n) {
					check(kind, plainMapBy(f, n))
				}
			}
		}
	}
	d := dice(seed)
	some := func(kind oneType, times int) {
		for range times {
			f, n := d.functionBetween()
			check(kind, plainMapBy(f, n))
		}
	}
	for _, kind := range typesUpTo(7, "oa") {
		some(kind, 2)
	}
	for range 700 {
		some(d.standing(5+2*d.below(5), true), 3)
		some(d.standing(5+2*d.below(5), false), 2)
		some(d.typeOf(9+2*d.below(3), "oa"), 1)
	}
}

func checkElement(t *testing.T, call string, got int, ok bool, want int) {
	t.Helper()
	if ok != (want >= 0) || got != max(want, 0) {
		t.Errorf("%s returns %d, %v and not %d", short(call), got, ok, want)
	}
}

// checkMapElement compares with the element that is wanted, or -1 for none.
func checkMapElement(t *testing.T, kind string, f []int, n int, x int, want int) {
	t.Helper()
	got, ok := impl.MapElement(kind, f, n, x)
	checkElement(t, fmt.Sprintf("MapElement(%q, %d, %d, %d)", short(kind), f, n, x), got, ok, want)
}

func checkMapBack(t *testing.T, kind string, f []int, n int, y int, want int) {
	t.Helper()
	got, ok := impl.MapBack(kind, f, n, y)
	checkElement(t, fmt.Sprintf("MapBack(%q, %d, %d, %d)", short(kind), f, n, y), got, ok, want)
}

func checkMapList(t *testing.T, kind string, f []int, n int, want []int, wantOk bool) {
	t.Helper()
	got, ok := impl.MapList(kind, f, n)
	checkNumbers(t, fmt.Sprintf("MapList(%q, %d, %d)", short(kind), f, n), got, ok, want, wantOk)
}

func checkMapTerm(t *testing.T, kind string, want string) {
	t.Helper()
	got, ok := impl.MapTerm(kind)
	checkText(t, "MapTerm of "+short(kind), got, ok, want)
}

func checkNatural(t *testing.T, from string, to string, f []int, n int, left []int, right []int, want bool) {
	t.Helper()
	if impl.MapNatural(from, to, f, n, left, right) != want {
		t.Errorf("MapNatural(%q, %q, %d, %d, %d, %d) is %v", short(from), short(to), f, n, left, right, !want)
	}
}

func checkMapMeans(t *testing.T, s string, from string, to string, n int, want []int, wantOk bool) {
	t.Helper()
	got, ok := impl.MapMeans(s, from, to, n)
	checkNumbers(t, fmt.Sprintf("MapMeans(%q, %q, %q, %d)", short(s), short(from), short(to), n), got, ok, want, wantOk)
}

// someNumbers are elements of most sets, of some, and of none.
func someNumbers() []int {
	return []int{0, 1, 2, 3, 15, -1, -2, impl.CountMax, 1 << 32, math.MinInt, math.MaxInt}
}

// checkNoForth checks that a function maps nothing of a type forth.
func checkNoForth(t *testing.T, kind string, f []int, n int) {
	t.Helper()
	for _, x := range someNumbers() {
		checkMapElement(t, kind, f, n, x, -1)
	}
	checkMapList(t, kind, f, n, nil, false)
	for _, left := range [][]int{{}, {0}, sameSizes(len(f), 0), sameSizes(4, 0)} {
		for _, right := range [][]int{{}, {0}, sameSizes(min(max(n, 0), 5), 0), left} {
			for _, other := range []string{"o", "a", kind} {
				checkNatural(t, kind, other, f, n, left, right, false)
				checkNatural(t, other, kind, f, n, left, right, false)
			}
		}
	}
}

func checkNoBack(t *testing.T, kind string, f []int, n int) {
	t.Helper()
	for _, y := range someNumbers() {
		checkMapBack(t, kind, f, n, y, -1)
	}
}

// A listSize is a list with a size, as a function between sizes or as none.
type listSize struct {
	f []int
	n int
}

// badFunctions returns lists and sizes that are no functions between sizes.
func badFunctions() []listSize {
	return []listSize{
		{nil, 1}, {[]int{}, 0}, {[]int{}, 2}, {[]int{}, 4}, {[]int{0}, 0}, {[]int{0}, -1}, {[]int{0, 0}, 0}, {[]int{0}, math.MinInt}, {[]int{-1}, -1}, {[]int{-1}, 0},
		// Too long, or to too large a size.
		{[]int{0, 0, 0, 0, 0}, 1}, {[]int{0, 1, 0, 1, 0}, 2}, {[]int{0, 1, 2, 3, 0}, 4}, {sameSizes(100000, 0), 1}, {[]int{0}, 5}, {[]int{0, 1}, 5}, {[]int{0, 1, 2, 3}, 5}, {[]int{0, 1, 2, 3, 4}, 5}, {[]int{0}, 6}, {[]int{0}, 1<<32 + 1}, {[]int{0, 1}, 1<<32 + 2}, {[]int{0}, math.MaxInt},
		// Numbers less than 0 or not less than the size, at each place.
		{[]int{1}, 1}, {[]int{-1}, 1}, {[]int{2, 0}, 2}, {[]int{0, 2}, 2}, {[]int{-1, 0}, 2}, {[]int{0, -1}, 2}, {[]int{0, 1, 3}, 3}, {[]int{0, 3, 1}, 3}, {[]int{3, 0, 1}, 3}, {[]int{0, -2, 1}, 3}, {[]int{4}, 4}, {[]int{0, 1, 2, 4}, 4}, {[]int{0, 1, 2, -1}, 4}, {[]int{1, 1}, 1}, {[]int{0, 1}, 1}, {[]int{1 << 32}, 1}, {[]int{0, 1<<32 + 1}, 2}, {[]int{math.MinInt}, 1}, {[]int{math.MaxInt, 0}, 2},
	}
}
