package tests

import (
	"fmt"
	"slices"
	"testing"

	"loop.example/parametric/impl"
)

var (
	exchange = []int{1, 0}
	merge    = []int{0, 0, 1} // from 3 to 2
	third    = []int{2}       // from 1 to 3
)

func TestMapsByHand(t *testing.T) {
	for _, c := range []struct {
		kind string
		f    []int
		n    int
		want string
	}{
		{"a", []int{0}, 1, "0"}, {"a", exchange, 2, "1 0"}, {"a", merge, 2, "0 0 1"}, {"a", third, 3, "2"}, {"a", []int{3, 1, 1, 2}, 4, "3 1 1 2"}, {"a", []int{3}, 4, "3"}, {"a", []int{0, 0, 0, 0}, 1, "0 0 0 0"},
		// Without the variable, all elements stay as they are.
		{"o", exchange, 2, "0 1"}, {"o", third, 3, "0 1"}, {"(> o o)", merge, 2, "0 1 2 3"}, {"(* o o)", third, 3, "0 1 2 3"}, {"(> (> o o) o)", []int{1, 0, 1}, 2, "0 1 2 3 4 5 6 7 8 9 10 11 12 13 14 15"},
		// Of pairs both parts are mapped.
		{"(* a o)", exchange, 2, "2 3 0 1"}, {"(* o a)", exchange, 2, "1 0 3 2"}, {"(* a a)", exchange, 2, "3 2 1 0"}, {"(* a o)", merge, 2, "0 1 0 1 2 3"}, {"(* o a)", merge, 2, "0 0 1 2 2 3"}, {"(* a a)", third, 3, "8"}, {"(* o a)", third, 3, "2 5"}, {"(* a a)", []int{1, 0}, 3, "4 3 1 0"}, {"(* o (* a o))", exchange, 2, "2 3 0 1 6 7 4 5"}, {"(* (* o a) o)", exchange, 2, "2 3 0 1 6 7 4 5"},
		// Of functions, what they have.
		{"(> o a)", exchange, 2, "3 2 1 0"}, {"(> o a)", merge, 2, "0 0 1 0 0 1 2 2 3"}, {"(> o a)", third, 3, "8"}, {"(> o a)", []int{0, 2}, 3, "0 2 6 8"}, {"(> o (* o a))", []int{1}, 2, "5 7 13 15"},
		// What functions are asked for comes from the other side.
		{"(> (> a o) o)", exchange, 2, "0 1 4 5 2 3 6 7 8 9 12 13 10 11 14 15"}, {"(> (> a o) o)", third, 3, "0 15 240 255"}, {"(> (> a o) o)", []int{0, 0}, 1, "0 1 0 1 0 1 0 1 2 3 2 3 2 3 2 3"}, {"(> (> a o) a)", []int{1}, 2, "15"}, {"(> (* o (> a o)) a)", []int{0}, 1, "0"},
		{"(> (> (> o a) o) o)", []int{0}, 1, "0 1 2 3"}, {"(> (> a o) (* a o))", []int{1}, 2, "170 175 250 255"},
	} {
		want := numbersOf(c.want)
		checkMapList(t, c.kind, c.f, c.n, want, true)
		for x, y := range want {
			checkMapElement(t, c.kind, c.f, c.n, x, y)
		}
		for _, x := range []int{-1, len(want), len(want) + 1, -len(want)} {
			checkMapElement(t, c.kind, c.f, c.n, x, -1)
		}
	}
}

func TestMapsBackByHand(t *testing.T) {
	for _, c := range []struct {
		kind string
		f    []int
		n    int
		want string
	}{
		{"o", exchange, 2, "0 1"}, {"o", third, 3, "0 1"}, {"(> o o)", merge, 2, "0 1 2 3"}, {"(* o o)", third, 3, "0 1 2 3"},
		{"(> a o)", exchange, 2, "0 2 1 3"}, {"(> a o)", merge, 2, "0 3 4 7"}, {"(> a o)", third, 3, "0 0 0 0 1 1 1 1"}, {"(> a o)", []int{0, 0}, 1, "0 3"}, {"(> a o)", []int{3}, 4, "0 0 0 0 0 0 0 0 1 1 1 1 1 1 1 1"},
		{"(* (> a o) o)", merge, 2, "0 1 6 7 8 9 14 15"}, {"(* o (> a o))", merge, 2, "0 3 4 7 8 11 12 15"}, {"(* (> a o) (> a o))", exchange, 2, "0 2 1 3 8 10 9 11 4 6 5 7 12 14 13 15"},
		{"(> (* a o) o)", exchange, 2, "0 4 8 12 1 5 9 13 2 6 10 14 3 7 11 15"}, {"(> (> o a) o)", []int{0}, 2, "0 1 0 1 0 1 0 1 0 1 0 1 0 1 0 1"}, {"(> (> o a) o)", []int{1}, 2, "0 0 0 0 0 0 0 0 1 1 1 1 1 1 1 1"}, {"(> a (> o o))", []int{1}, 2, "0 0 0 0 1 1 1 1 2 2 2 2 3 3 3 3"}, {"(> o (> a o))", exchange, 2, "0 2 1 3 8 10 9 11 4 6 5 7 12 14 13 15"},
		{"(> (> (> a o) o) o)", []int{0}, 1, "0 1 2 3 4 5 6 7 8 9 10 11 12 13 14 15"},
	} {
		want := numbersOf(c.want)
		for y, x := range want {
			checkMapBack(t, c.kind, c.f, c.n, y, x)
		}
		for _, y := range []int{-1, len(want), len(want) + 1, -len(want)} {
			checkMapBack(t, c.kind, c.f, c.n, y, -1)
		}
	}
}

// checkMaps compares all that is told of elements of a type with what the tests find on their own. It tells whether something is mapped forth and back.
func checkMaps(t *testing.T, d *dice, kind oneType, p *plainMap) (bool, bool) {
	t.Helper()
	s := kind.String()
	left, right, known := p.counts(kind)
	forth, back := known && kind.up(), known && kind.down()
	if !forth && d.below(8) == 0 {
		checkNoForth(t, s, p.f, p.n)
	}
	if !back && d.below(8) == 0 {
		checkNoBack(t, s, p.f, p.n)
	}
	for _, x := range d.some(max(left, 0)) {
		want := -1
		if forth && x >= 0 && x < left {
			want = p.forth(kind, x)
		}
		checkMapElement(t, s, p.f, p.n, x, want)
	}
	for _, y := range d.some(max(right, 0)) {
		want := -1
		if back && y >= 0 && y < right {
			want = p.back(kind, y)
		}
		checkMapBack(t, s, p.f, p.n, y, want)
	}
	if forth && left <= 300 {
		list := []int{}
		for x := range left {
			list = append(list, p.forth(kind, x))
		}
		checkMapList(t, s, p.f, p.n, list, true)
	} else {
		checkMapList(t, s, p.f, p.n, nil, false)
	}
	return forth, back
}

func TestMaps(t *testing.T) {
	d := dice(80)
	forths, backs, narrower, wider, not := 0, 0, 0, 0, 0
	mapCases(80, func(kind oneType, p *plainMap) {
		forth, back := checkMaps(t, &d, kind, p)
		if forth {
			forths++
		}
		if back {
			backs++
		}
		if (forth || back) && len(kind.names()) > 0 && len(p.f) > p.n {
			narrower++
		}
		if (forth || back) && len(kind.names()) > 0 && len(p.f) < p.n {
			wider++
		}
		if !forth && !back {
			not++
		}
	})
	checkCount(t, "elements are mapped forth", forths, 2500)
	checkCount(t, "elements are mapped back", backs, 2000)
	checkCount(t, "the second size is less", narrower, 700)
	checkCount(t, "the first size is less", wider, 700)
	checkCount(t, "nothing is mapped", not, 1000)
}

func TestNoFunctionsOfMaps(t *testing.T) {
	for _, kind := range []string{"a", "o", "(* a o)", "(> o a)", "(* o o)", "(> (> a o) o)"} {
		for _, c := range badFunctions() {
			checkNoForth(t, kind, c.f, c.n)
		}
	}
	for _, kind := range []string{"o", "(> a o)", "(* o o)", "(> (> o a) o)"} {
		for _, c := range badFunctions() {
			checkNoBack(t, kind, c.f, c.n)
		}
	}
	// The greatest size on both sides.
	checkMapList(t, "a", []int{3, 2, 1, 0}, 4, []int{3, 2, 1, 0}, true)
	checkMapElement(t, "(* a a)", []int{3, 2, 1, 0}, 4, 1, 14)
	checkMapBack(t, "(> a o)", []int{3, 2, 1, 0}, 4, 1, 8)
}

func TestSidesOfMaps(t *testing.T) {
	for _, c := range []struct {
		kind  string
		forth bool
		back  bool
	}{
		{"o", true, true}, {"(> o o)", true, true}, {"(* o (> (> o o) o))", true, true},
		{"a", true, false}, {"(* a o)", true, false}, {"(> o a)", true, false}, {"(> (> a o) o)", true, false}, {"(> (> a o) a)", true, false}, {"(> (* (> a o) o) (* a o))", true, false}, {"(* (> (> a o) o) o)", true, false},
		{"(> a o)", false, true}, {"(* (> a o) o)", false, true}, {"(> o (> a o))", false, true}, {"(> (> (> a o) o) o)", false, true}, {"(> (> o a) o)", false, true}, {"(> a (> a o))", false, true}, {"(> (* a a) o)", false, true},
		{"(> a a)", false, false}, {"(* a (> a o))", false, false}, {"(* (> a o) a)", false, false}, {"(> (> a a) o)", false, false}, {"(> (> o a) a)", false, false}, {"(> a (* o a))", false, false}, {"(> (> a o) (> a o))", false, false}, {"(> (* a (> a o)) o)", false, false},
	} {
		if !c.forth {
			checkNoForth(t, c.kind, exchange, 2)
			checkNoForth(t, c.kind, []int{0}, 1)
			checkMapTerm(t, c.kind, "")
		} else if _, ok := impl.MapList(c.kind, []int{0}, 1); !ok {
			t.Errorf("MapList(%q) fails", c.kind)
		} else if _, ok := impl.MapTerm(c.kind); !ok {
			t.Errorf("MapTerm(%q) fails", c.kind)
		}
		if !c.back {
			checkNoBack(t, c.kind, exchange, 2)
			checkNoBack(t, c.kind, []int{0}, 1)
		} else if _, ok := impl.MapBack(c.kind, []int{0}, 1, 0); !ok {
			t.Errorf("MapBack(%q) fails", c.kind)
		}
	}
}

func TestNoTypesOfMaps(t *testing.T) {
	for _, s := range append(badTypes(), otherTypes()...) {
		for _, c := range []listSize{{[]int{0}, 1}, {exchange, 2}, {merge, 2}, {third, 3}} {
			checkNoForth(t, s, c.f, c.n)
			checkNoBack(t, s, c.f, c.n)
		}
		checkMapTerm(t, s, "")
		for n := range 6 {
			for _, x := range []string{"(lam x x)", "(lam x true)", "true"} {
				checkMapMeans(t, x, s, s, n, nil, false)
				checkMapMeans(t, x, s, "a", n, nil, false)
				checkMapMeans(t, x, "a", s, n, nil, false)
				checkMapMeans(t, x, s, "o", n, nil, false)
				checkMapMeans(t, x, "o", s, n, nil, false)
			}
		}
	}
}

// Counts must be known for both sizes, whichever of them is the larger one.
func TestCountsOfMaps(t *testing.T) {
	for _, c := range []struct {
		kind  string
		known int // the greatest size for which the count is known
	}{
		{"(> (> a o) a)", 2}, {"(> o (> o (> o a)))", 2}, {"(* (> (> a o) a) o)", 2}, {"(* a (* a (* a (* a (* a (* a a))))))", 3}, {"(> o (> o (* a a)))", 2}, {"(> (> a o) (* a a))", 2},
		{"(> (> o a) o)", 3}, {"(> a (> o (* o o)))", 3}, {"(> a (* (* o o) (* o (* o o))))", 2}, {"(> (> (> a o) o) o)", 1}, {"(> (* a (* o o)) o)", 3},
		// Not for any size, with the variable and without it, by a part.
		{"(> o (> o (> o (> o o))))", 0}, {"(* a (> o (> o (> o (> o o)))))", 0}, {"(> (> o (> o (> o (> o o)))) a)", 0}, {"(> (> o (> o (> o (> o (> a o))))) o)", 0},
	} {
		kind := readType(c.kind)
		for m := 1; m <= impl.SizeMax; m++ {
			for n := 1; n <= impl.SizeMax; n++ {
				f := sameSizes(m, n-1)
				_, forth := impl.MapElement(c.kind, f, n, 0)
				_, back := impl.MapBack(c.kind, f, n, 0)
				known := max(m, n) <= c.known
				if forth != (known && kind.up()) || back != (known && kind.down()) {
					t.Errorf("%q is mapped by %d, %d forth: %v, and back: %v", c.kind, f, n, forth, back)
				}
				if !forth {
					checkNoForth(t, c.kind, f, n)
				}
				if !back {
					checkNoBack(t, c.kind, f, n)
				}
			}
		}
	}
}

// Counts are made of twos and threes, so that none is 300: the nearest ones are 288 and 324.
func TestManyElementsOfMaps(t *testing.T) {
	all := "(* (* a a) (* o (* o (* o (* o o)))))"
	for _, c := range []struct {
		kind  string
		m     int
		count int
	}{
		{all, 3, 288}, {all, 1, 32}, {"(* a (* a (* a a)))", 4, 256}, {"(* (* a a) (* a a))", 3, 81}, {"(> o (* a (* o o)))", 2, 64}, {"(* (* o o) (* (* o o) (* (* o o) (* o o))))", 1, 256}, {"(> (> a o) a)", 2, 16},
		{all, 4, 512}, {"(* (* a a) (* (* a a) (* o o)))", 3, 324}, {"(* a (* a (* a (* a a))))", 4, 1024}, {"(> o (* a (* a o)))", 3, 324}, {"(> o (> o a))", 4, 256}, {"(> o (> o (* o a)))", 3, 1296}, {"(* o (* (* o o) (* (* o o) (* (* o o) (* o o)))))", 1, 512},
	} {
		kind := readType(c.kind)
		for n := 1; n <= impl.SizeMax; n++ {
			f := rangeOf(c.m)
			for i := range f {
				f[i] = (i + 1) % n
			}
			p := plainMapBy(f, n)
			left, right, known := p.counts(kind)
			if left != c.count {
				t.Fatalf("the test has %d elements of %s", left, c.kind)
			}
			if !known {
				checkNoForth(t, c.kind, f, n)
				continue
			}
			checkMapElement(t, c.kind, f, n, left-1, p.forth(kind, left-1))
			lefts, rights := sameSizes(left, 1), sameSizes(right, 1)
			checkNatural(t, c.kind, "o", f, n, lefts, rights, left <= 300)
			if left > 300 {
				checkMapList(t, c.kind, f, n, nil, false)
				continue
			}
			list := []int{}
			for x := range left {
				list = append(list, p.forth(kind, x))
			}
			checkMapList(t, c.kind, f, n, list, true)
		}
	}
}

// Tables of large sets inside each other, all of which have just one element.
func TestMapsOfLargeTypes(t *testing.T) {
	large := "(> (* o o) (* o (* o o)))"
	for _, kind := range []string{chain(3, large, "a"), "(> " + large + " (* a (> " + large + " a)))", "(* " + chain(3, large, "a") + " a)"} {
		checkMapList(t, kind, []int{0}, 1, []int{0}, true)
		checkMapElement(t, kind, []int{0}, 1, 1, -1)
		checkNoForth(t, kind, []int{0}, 2)
		checkNoForth(t, kind, []int{0, 0}, 1)
	}
	checkMapElement(t, "(* (> (* o o) (* o o)) a)", third, 3, 255, 3*255+2)
	checkMapElement(t, large, third, 3, 4095, 4095)
	checkMapBack(t, large, third, 3, 4095, 4095)
	checkMapBack(t, "(> (* a (* o o)) o)", []int{2, 1, 0}, 3, 15, 15<<8)
	checkMapElement(t, around(11, "(* o ", "a", ")"), exchange, 2, 4094, 4095)
	checkMapList(t, around(19, "(* a ", "a", ")"), []int{0}, 1, []int{0}, true)
	checkNoForth(t, around(19, "(* a ", "a", ")"), third, 3)
}

func TestMapsShareNoMemory(t *testing.T) {
	list := append(slices.Clone(merge), 7, 8, 9)
	f := list[:3]
	left, right := append(sameSizes(9, 1), 5), append(sameSizes(4, 1), 5)
	calls := []func() []int{
		func() []int { x, _ := impl.MapMeans("(lam x x)", "a", "a", 3); return x },
		func() []int { x, _ := impl.MapMeans("(lam p (fst p))", "(* a a)", "a", 2); return x },
	}
	for _, kind := range []string{"a", "o", "(* a o)", "(> o a)", "(> (> a o) o)", "(* a a)"} {
		calls = append(calls, func() []int { x, _ := impl.MapList(kind, f, 2); return x })
		impl.MapElement(kind, f, 2, 1)
		impl.MapBack("(> "+kind+" o)", f, 2, 1)
		impl.MapNatural(kind, "o", f, 2, left[:9], right[:4])
	}
	checkNatural(t, "(* a a)", "o", f, 2, left[:9], right[:4], true)
	for i, call := range calls {
		first := call()
		if len(first) == 0 {
			t.Errorf("call %d fails", i)
		}
		want := slices.Clone(first)
		spoil(first)
		if again := call(); !slices.Equal(again, want) {
			t.Errorf("call %d returns %d and then %d", i, want, again)
		}
	}
	if given := fmt.Sprint(list, left, right); given != "[0 0 1 7 8 9] [1 1 1 1 1 1 1 1 1 5] [1 1 1 1 5]" {
		t.Errorf("the arguments become %s", given)
	}
	// What is changed behind a call does not change what it has returned.
	result, _ := impl.MapList("(* o a)", f, 2)
	spoil(f)
	checkNumbers(t, "MapList of a list that is changed", result, true, []int{0, 0, 1, 2, 2, 3}, true)
}
