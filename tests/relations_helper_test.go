package tests

import (
	"fmt"
	"math"
	"slices"
	"strings"
	"testing"

	"loop.example/parametric/impl"
)

// relOf returns the relation that a text like "2 3 | 0 5" tells: both sizes, and the pairs behind them.
func relOf(text string) impl.Rel {
	front, behind, _ := strings.Cut(text, "|")
	r := impl.Rel{}
	fmt.Sscan(front, &r.Left, &r.Right)
	for _, word := range strings.Fields(behind) {
		pair := 0
		fmt.Sscan(word, &pair)
		r.Pairs = append(r.Pairs, pair)
	}
	return r
}

func noPairs(left int, right int) impl.Rel {
	return impl.Rel{Left: left, Right: right}
}

func allPairs(left int, right int) impl.Rel {
	r := noPairs(left, right)
	for pair := range left * right {
		r.Pairs = append(r.Pairs, pair)
	}
	return r
}

func equalPairs(size int) impl.Rel {
	r := noPairs(size, size)
	for i := range size {
		r.Pairs = append(r.Pairs, i*size+i)
	}
	return r
}

// graphPairs returns the relation of each index of a list to its number, which must be right.
func graphPairs(list []int, right int) impl.Rel {
	r := noPairs(len(list), right)
	for i, j := range list {
		r.Pairs = append(r.Pairs, i*right+j)
	}
	return r
}

// backPairs returns a valid relation with both sides exchanged.
func backPairs(r impl.Rel) impl.Rel {
	back := noPairs(r.Right, r.Left)
	for _, pair := range r.Pairs {
		back.Pairs = append(back.Pairs, pair%r.Right*r.Left+pair/r.Right)
	}
	slices.Sort(back.Pairs)
	return back
}

// joinedPairs returns what two valid relations make, by going through all numbers of the three sides.
func joinedPairs(a impl.Rel, b impl.Rel) impl.Rel {
	joined := noPairs(a.Left, b.Right)
	for i := range a.Left {
		for k := range b.Right {
			for j := range a.Right {
				if hasPair(a, i, j) && hasPair(b, j, k) {
					joined.Pairs = append(joined.Pairs, i*b.Right+k)
					break
				}
			}
		}
	}
	return joined
}

// hasPair tells whether two numbers in range are related by a valid relation.
func hasPair(r impl.Rel, i int, j int) bool {
	_, found := slices.BinarySearch(r.Pairs, i*r.Right+j)
	return found
}

func sameRel(a impl.Rel, b impl.Rel) bool {
	return a.Left == b.Left && a.Right == b.Right && slices.Equal(a.Pairs, b.Pairs)
}

func relText(r impl.Rel) string {
	return short(fmt.Sprint(r.Left, " ", r.Right, " | ", strings.Trim(fmt.Sprint(r.Pairs[:min(60, len(r.Pairs))]), "[]")))
}

func relTexts(rels []impl.Rel) string {
	texts := []string{}
	for _, r := range rels {
		texts = append(texts, relText(r))
	}
	return short(strings.Join(texts, ", "))
}

// checkRel compares a relation that is returned with what is wanted; the zero value stands for a failure.
func checkRel(t *testing.T, call string, got impl.Rel, ok bool, want impl.Rel) {
	t.Helper()
	if !sameRel(got, want) || ok != (want.Left != 0) {
		t.Errorf("%s returns %s, %v and not %s", short(call), relText(got), ok, relText(want))
	}
}

// relationsBetween returns all relations of two sizes, the product of which is small.
func relationsBetween(left int, right int) []impl.Rel {
	all := []impl.Rel{}
	for number := range 1 << (left * right) {
		r := noPairs(left, right)
		for pair := range left * right {
			if number>>pair&1 == 1 {
				r.Pairs = append(r.Pairs, pair)
			}
		}
		all = append(all, r)
	}
	return all
}

// relationsUpTo returns all relations the product of whose sizes is at most a number.
func relationsUpTo(product int) []impl.Rel {
	all := []impl.Rel{}
	for left := 1; left <= product; left++ {
		for right := 1; left*right <= product; right++ {
			all = append(all, relationsBetween(left, right)...)
		}
	}
	return all
}

// relation returns a relation of two sizes: without pairs, with all of them, with few, with about half of them or with most, or a function.
func (d *dice) relation(left int, right int) impl.Rel {
	most := []int{0, 1, 8, 8, 15, 16, -1}[d.below(7)]
	r := noPairs(left, right)
	for i := range left {
		only := d.below(right)
		for j := range right {
			if d.below(16) < most || most < 0 && j == only {
				r.Pairs = append(r.Pairs, i*right+j)
			}
		}
	}
	return r
}

// side returns a size of a side: mostly a small one, and sometimes one around what fills a word of bits, or RelMax.
func (d *dice) side() int {
	return []int{1, 1, 2, 2, 3, 3, 4, 5, 7, 16, 20, 63, 64, 65, 127, impl.RelMax}[d.below(16)]
}

// goodRels returns relations that are valid: all small ones, those at the limits, and others.
func goodRels() []impl.Rel {
	all := relationsUpTo(6)
	for _, sides := range [][2]int{{1, 128}, {128, 1}, {128, 128}, {127, 128}, {128, 127}, {2, 128}, {128, 2}, {64, 64}, {65, 63}, {1, 64}, {1, 65}, {3, 100}} {
		left, right := sides[0], sides[1]
		last := left*right - 1
		all = append(all, noPairs(left, right), allPairs(left, right), impl.Rel{Left: left, Right: right, Pairs: []int{0}}, impl.Rel{Left: left, Right: right, Pairs: []int{last}}, impl.Rel{Left: left, Right: right, Pairs: []int{0, last}}, impl.Rel{Left: left, Right: right, Pairs: []int{last - 1, last}})
	}
	d := dice(60)
	for range 60 {
		all = append(all, d.relation(d.side(), d.side()))
	}
	return all
}

// badRels returns relations that are invalid.
func badRels() []impl.Rel {
	bad := []impl.Rel{}
	for _, text := range []string{
		"0 0 |", "0 1 |", "1 0 |", "0 0 | 0", "0 1 | 0", "1 0 | 0", "0 128 |", "129 1 |", "1 129 |", "129 129 |", "129 1 | 0", "1 129 | 0", "1 129 | 128", "129 128 |", "128 129 |", "128 129 | 16384", "129 0 |",
		"-1 1 |", "1 -1 |", "-1 -1 |", "-1 -1 | 0", "-2 -2 | 0 1 2 3", "-2 2 |", "2 -2 | -1", "-128 -128 |", "256 1 |", "1 256 |", "257 257 |", "4294967297 1 |", "1 4294967297 |", "4294967296 4294967296 |", "4611686018427387904 4 |", "4 4611686018427387904 |", "3037000500 3037000500 |",
		"2 2 | 1 0", "2 2 | 3 2 1 0", "2 2 | 0 2 1", "2 2 | 0 1 3 2", "2 2 | 3 0", "2 2 | 2 1", "2 3 | 5 4", "128 128 | 16383 0", "1 128 | 64 63", "1 128 | 100 36",
		"2 2 | 0 0", "2 2 | 3 3", "2 2 | 0 1 1", "2 2 | 0 0 1", "2 2 | 0 1 2 3 3", "1 1 | 0 0", "2 3 | 2 2 5", "128 128 | 16383 16383",
		"2 2 | -1", "2 2 | -1 0", "2 2 | -4", "2 2 | -2 -1", "1 1 | -1", "2 2 | 0 -1", "2 2 | -1 4", "3 2 | -6 0 5", "128 128 | -1",
		"2 2 | 4", "2 2 | 0 4", "2 2 | 0 1 2 3 4", "1 1 | 1", "1 1 | 0 1", "2 3 | 6", "3 2 | 6", "2 3 | 0 5 6", "1 128 | 128", "128 1 | 128", "128 128 | 16384", "128 128 | 0 16384", "4 4 | 64", "2 2 | 64", "2 2 | 128", "2 2 | 1000000", "2 2 | 4294967296",
	} {
		bad = append(bad, relOf(text))
	}
	for _, n := range []int{math.MinInt, math.MinInt + 1, math.MaxInt - 1, math.MaxInt} {
		bad = append(bad, noPairs(n, 1), noPairs(1, n), noPairs(n, n), impl.Rel{Left: 2, Right: 2, Pairs: []int{n}}, impl.Rel{Left: 2, Right: 2, Pairs: []int{0, n}}, impl.Rel{Left: n, Right: n, Pairs: []int{0}})
	}
	bad = append(bad, impl.Rel{}, allPairs(129, 128), impl.Rel{Left: 2, Right: 2, Pairs: allPairs(100, 100).Pairs}, impl.Rel{Left: 128, Right: 128, Pairs: sameSizes(100000, 0)})
	return bad
}

// A plainLifting lifts relations of variables as the document says, by going through all elements of sets.
type plainLifting struct {
	left  *plainModel
	right *plainModel
	rels  map[string]impl.Rel
	told  map[string]bool // which elements of types are related, of those that have been asked
}

// plainLift returns the lifting of valid relations of variables, of which none stands twice.
func plainLift(names []string, rels []impl.Rel) *plainLifting {
	left, right := []int{}, []int{}
	byName := map[string]impl.Rel{}
	for i, r := range rels {
		left, right = append(left, r.Left), append(right, r.Right)
		byName[names[i]] = r
	}
	return &plainLifting{
		left:  &plainModel{names, left, map[string]*plainSet{}},
		right: &plainModel{names, right, map[string]*plainSet{}},
		rels:  byName, told: map[string]bool{},
	}
}

// counts returns the counts of a type on both sides, and whether both are known.
func (l *plainLifting) counts(kind oneType) (int, int, bool) {
	x, y := l.left.count(kind), l.right.count(kind)
	return x, y, x >= 0 && y >= 0
}

func (l *plainLifting) related(kind oneType, x int, y int) bool {
	if len(kind.parts) == 0 {
		return kind.atom == "o" && x == y || kind.atom != "o" && hasPair(l.rels[kind.atom], x, y)
	}
	key := fmt.Sprint(kind, x, y)
	related, asked := l.told[key]
	if !asked {
		related = l.relatedMade(kind, l.left.set(kind).list[x], l.right.set(kind).list[y])
		l.told[key] = related
	}
	return related
}

// relatedMade tells whether elements of a type with parts are related, by what they are made of.
func (l *plainLifting) relatedMade(kind oneType, x []int, y []int) bool {
	if kind.atom == "*" {
		return l.related(kind.parts[0], x[0], y[0]) && l.related(kind.parts[1], x[1], y[1])
	}
	for i := range x {
		for j := range y {
			if l.related(kind.parts[0], i, j) && !l.related(kind.parts[1], x[i], y[j]) {
				return false
			}
		}
	}
	return true
}

// whole returns the relation of all related elements of a type, the counts of which are known.
func (l *plainLifting) whole(kind oneType) impl.Rel {
	x, y, _ := l.counts(kind)
	r := noPairs(x, y)
	for i := range x {
		for j := range y {
			if l.related(kind, i, j) {
				r.Pairs = append(r.Pairs, i*y+j)
			}
		}
	}
	return r
}

// A liftCase is a type with relations of its variables, for which both models are valid.
type liftCase struct {
	kind  oneType
	names []string
	rels  []impl.Rel
}

func (c liftCase) String() string {
	return fmt.Sprintf("%s, %q, %s", c.kind, c.names, relTexts(c.rels))
}

// with returns the case with other relations, which are made of those that it has.
func (c liftCase) with(other func(name string, r impl.Rel) impl.Rel) liftCase {
	rels := []impl.Rel{}
	for i, r := range c.rels {
		rels = append(rels, other(c.names[i], r))
	}
	return liftCase{c.kind, c.names, rels}
}

// back returns the case with all relations back.
func (c liftCase) back() liftCase {
	return c.with(func(_ string, r impl.Rel) impl.Rel { return backPairs(r) })
}

func (c liftCase) related(x int, y int) bool {
	return impl.Related(c.kind.String(), c.names, c.rels, x, y)
}

func (c liftCase) lift() (impl.Rel, bool) {
	return impl.RelLift(c.kind.String(), c.names, c.rels)
}

// variableSize returns a size of the set of a variable, mostly a small one.
func (d *dice) variableSize() int {
	return []int{1, 1, 2, 2, 2, 3, 3, 4}[d.below(8)]
}

// liftCases returns small types with all relations of small sizes, and larger ones with relations of all sizes, also of variables that do not stand in them.
func liftCases(seed int) []liftCase {
	all := []liftCase{}
	for _, kind := range typesUpTo(5, "oa") {
		for _, r := range relationsUpTo(4) {
			if r.Left <= 2 && r.Right <= 2 {
				all = append(all, liftCase{kind, []string{"a"}, []impl.Rel{r}})
			}
		}
	}
	d := dice(seed)
	add := func(kind oneType, letters string) {
		c := liftCase{kind: kind}
		for _, name := range strings.Split(letters, "") {
			c.names = append(c.names, name)
			c.rels = append(c.rels, d.relation(d.variableSize(), d.variableSize()))
		}
		all = append(all, c)
	}
	for _, kind := range typesUpTo(5, "oab") {
		for _, letters := range []string{"ab", "ba", "zab", "abc", "ab"} {
			add(kind, letters)
		}
	}
	for range 1500 {
		add(d.typeOf(7+2*d.below(4), "oabc"), []string{"abc", "cab", "bacx"}[d.below(3)])
	}
	return all
}
