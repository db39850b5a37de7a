package tests

import (
	"fmt"
	"slices"
	"testing"

	"loop.example/parametric/impl"
)

// someRels returns relations that are valid, and others with sizes and pairs of all kinds, most of which are not.
func someRels(seed int) []impl.Rel {
	d := dice(seed)
	all := append(goodRels(), badRels()...)
	for range 3000 {
		r := noPairs(d.below(6)-1, d.below(6)-1)
		for range d.below(5) {
			r.Pairs = append(r.Pairs, d.below(20)-1)
		}
		if d.below(3) > 0 {
			slices.Sort(r.Pairs)
		}
		all = append(all, r)
	}
	return all
}

// plainValid tells whether a relation is valid, by what the document says.
func plainValid(r impl.Rel) bool {
	valid := r.Left >= 1 && r.Left <= 128 && r.Right >= 1 && r.Right <= 128
	for i, pair := range r.Pairs {
		valid = valid && pair >= 0 && pair < r.Left*r.Right && (i == 0 || r.Pairs[i-1] < pair)
	}
	return valid
}

func TestPromise47(t *testing.T) {
	held, not := 0, 0
	for _, r := range someRels(47) {
		valid := impl.RelValid(r)
		if valid != plainValid(r) {
			t.Errorf("RelValid(%s) is %v", relText(r), valid)
		}
		if !valid {
			not++
			checkHas(t, r, 0, 0, false)
			checkHas(t, r, 1, 1, false)
			continue
		}
		held++
		if r.Left*r.Right > 5000 {
			continue
		}
		has := 0
		for i := -1; i <= r.Left; i++ {
			for j := -1; j <= r.Right; j++ {
				if impl.RelHas(r, i, j) {
					has++
				}
			}
		}
		if has != len(r.Pairs) {
			t.Errorf("RelHas(%s) holds for %d numbers", relText(r), has)
		}
	}
	checkCount(t, "RelValid holds", held, 500)
	checkCount(t, "RelValid does not hold", not, 1000)
}

func TestPromise48(t *testing.T) {
	d := dice(48)
	held := 0
	for _, r := range goodRels() {
		back, ok := impl.RelBack(r)
		checkRel(t, "RelBack of "+relText(r), back, ok, backPairs(r))
		for range 120 {
			i, j := d.below(r.Left+4)-2, d.below(r.Right+4)-2
			has := impl.RelHas(r, i, j)
			if has && (i < 0 || i >= r.Left || j < 0 || j >= r.Right) || impl.RelHas(back, j, i) != has {
				t.Errorf("RelHas(%s, %d, %d) is %v, and that of RelBack the other way round %v", relText(r), i, j, has, impl.RelHas(back, j, i))
			}
			if has {
				held++
			}
		}
	}
	checkCount(t, "RelHas holds", held, 3000)
}

func TestPromise49(t *testing.T) {
	for n := -3; n <= impl.RelMax+3; n++ {
		same, ok := impl.RelSame(n)
		if n < 1 || n > impl.RelMax {
			checkRel(t, fmt.Sprint("RelSame of ", n), same, ok, impl.Rel{})
			continue
		}
		checkRel(t, fmt.Sprint("RelSame of ", n), same, ok, equalPairs(n))
		back, ok := impl.RelBack(same)
		checkRel(t, "RelBack of it", back, ok, same)
		joined, ok := impl.RelJoin(same, same)
		checkRel(t, "RelJoin of it and itself", joined, ok, same)
		list, ok := impl.RelFun(same)
		if !ok || len(list) != n {
			t.Errorf("RelFun of RelSame(%d) returns %d, %v", n, list, ok)
		}
		for i, j := range list {
			if i != j {
				t.Errorf("RelFun of RelSame(%d) has %d for %d", n, j, i)
			}
		}
	}
}

// list returns a list of numbers less than a size, or sometimes one with a number that is not.
func (d *dice) list(length int, size int) []int {
	list := []int{}
	for range length {
		list = append(list, d.below(size))
	}
	if d.below(10) == 0 {
		list[d.below(length)] = []int{-1, size, size + 1, -size}[d.below(4)]
	}
	return list
}

func TestPromise50(t *testing.T) {
	d := dice(50)
	held, not, joins := 0, 0, 0
	for range 3000 {
		left, middle, right := d.side(), d.side(), d.side()
		list := d.list(left, middle)
		graph, ok := impl.RelGraph(list, middle)
		if slices.Min(list) < 0 || slices.Max(list) >= middle {
			not++
			checkRel(t, fmt.Sprint("RelGraph of ", list), graph, ok, impl.Rel{})
			continue
		}
		held++
		checkRel(t, fmt.Sprint("RelGraph of ", list), graph, ok, graphPairs(list, middle))
		if back, ok := impl.RelFun(graph); !ok || !slices.Equal(back, list) {
			t.Errorf("RelFun of the graph of %d returns %d, %v", list, back, ok)
		}
		second := d.list(middle, right)
		other, ok := impl.RelGraph(second, right)
		if !ok {
			continue
		}
		joins++
		both := []int{}
		for _, j := range list {
			both = append(both, second[j])
		}
		joined, ok := impl.RelJoin(graph, other)
		checkRel(t, fmt.Sprint("RelJoin of the graphs of ", list, " and ", second), joined, ok, graphPairs(both, right))
	}
	checkCount(t, "RelGraph succeeds", held, 2000)
	checkCount(t, "RelGraph fails", not, 200)
	checkCount(t, "graphs are joined", joins, 1500)
}

func TestPromise51(t *testing.T) {
	held := 0
	for _, r := range someRels(51) {
		back, ok := impl.RelBack(r)
		if !plainValid(r) {
			checkRel(t, "RelBack of "+relText(r), back, ok, impl.Rel{})
			continue
		}
		held++
		checkRel(t, "RelBack of "+relText(r), back, ok, backPairs(r))
		again, ok := impl.RelBack(back)
		checkRel(t, "RelBack of RelBack of "+relText(r), again, ok, r)
		if len(back.Pairs) != len(r.Pairs) {
			t.Errorf("RelBack(%s) has %d pairs", relText(r), len(back.Pairs))
		}
	}
	checkCount(t, "RelBack succeeds", held, 500)
}

// checkJoined checks what is promised of two relations that are joined.
func checkJoined(t *testing.T, a impl.Rel, b impl.Rel) bool {
	t.Helper()
	call := "RelJoin of " + relText(a) + " and " + relText(b)
	joined, ok := impl.RelJoin(a, b)
	if !plainValid(a) || !plainValid(b) || a.Right != b.Left {
		checkRel(t, call, joined, ok, impl.Rel{})
		return false
	}
	checkRel(t, call, joined, ok, joinedPairs(a, b))
	back, ok := impl.RelJoin(backPairs(b), backPairs(a))
	checkRel(t, call+" the other way round", back, ok, backPairs(joined))
	same, ok := impl.RelJoin(joined, equalPairs(joined.Right))
	checkRel(t, call+" and equal numbers", same, ok, joined)
	same, ok = impl.RelJoin(equalPairs(joined.Left), joined)
	checkRel(t, call+" behind equal numbers", same, ok, joined)
	return true
}

func TestPromise52(t *testing.T) {
	d := dice(52)
	held, not := 0, 0
	check := func(a impl.Rel, b impl.Rel) {
		if checkJoined(t, a, b) {
			held++
		} else {
			not++
		}
	}
	small := relationsUpTo(4)
	for _, a := range small {
		for _, b := range small {
			check(a, b)
		}
	}
	for range 1000 {
		left, middle, right := d.side(), d.side(), d.side()
		check(d.relation(left, middle), d.relation(middle, right))
		check(d.relation(left, middle), d.relation(middle+d.below(2), right))
	}
	some := someRels(52)
	for range 3000 {
		check(some[d.below(len(some))], some[d.below(len(some))])
	}
	checkCount(t, "RelJoin succeeds", held, 3000)
	checkCount(t, "RelJoin fails", not, 3000)
}

func TestPromise53(t *testing.T) {
	held, not := 0, 0
	d := dice(53)
	all := someRels(53)
	for range 500 {
		all = append(all, d.relation(d.side(), d.side()))
	}
	for _, r := range all {
		list, ok := impl.RelFun(r)
		want := plainValid(r)
		for i := 0; want && i < r.Left; i++ {
			related := 0
			for j := range r.Right {
				if hasPair(r, i, j) {
					related++
				}
			}
			want = related == 1
		}
		if ok != want {
			t.Errorf("RelFun(%s) returns %v", relText(r), ok)
		}
		if !ok {
			not++
			checkNoFunction(t, r)
			continue
		}
		held++
		graph, ok := impl.RelGraph(list, r.Right)
		checkRel(t, fmt.Sprint("RelGraph of ", list), graph, ok, r)
	}
	checkCount(t, "RelFun succeeds", held, 150)
	checkCount(t, "RelFun fails", not, 1500)
}

func TestPromise54(t *testing.T) {
	d := dice(54)
	held := 0
	check := func(left int, right int, n int) {
		r, ok := impl.RelNumber(left, right, n)
		if n < 0 || n >= 1<<(left*right) {
			checkRel(t, fmt.Sprintf("RelNumber(%d, %d, %d)", left, right, n), r, ok, impl.Rel{})
			return
		}
		held++
		sum := 0
		for _, pair := range r.Pairs {
			sum += 1 << pair
		}
		if !ok || sum != n || r.Left != left || r.Right != right || !impl.RelValid(r) {
			t.Errorf("RelNumber(%d, %d, %d) returns %s, %v", left, right, n, relText(r), ok)
		}
	}
	for left := 1; left <= 16; left++ {
		for right := 1; left*right <= 16; right++ {
			if left*right <= 8 {
				for n := -3; n <= 1<<(left*right)+3; n++ {
					check(left, right, n)
				}
			}
			for range 60 {
				check(left, right, d.below(1<<(left*right)+10))
			}
		}
	}
	checkCount(t, "RelNumber succeeds", held, 3000)
}

// liftedSome calls a function for cases in which both counts are known with some elements, and with what the tests find on their own.
func liftedSome(seed int, check func(c liftCase, l *plainLifting, x int, y int)) {
	d := dice(seed)
	for _, c := range liftCases(seed) {
		l := plainLift(c.names, c.rels)
		left, right, known := l.counts(c.kind)
		if !known {
			continue
		}
		for range 4 {
			check(c, l, d.below(left), d.below(right))
		}
		check(c, l, left-1, right-1)
	}
}

func TestPromise55(t *testing.T) {
	held, not, pairs := 0, 0, 0
	liftedSome(55, func(c liftCase, l *plainLifting, x int, y int) {
		related := c.related(x, y)
		if related != l.related(c.kind, x, y) {
			t.Errorf("Related(%s) of %d and %d is %v", c, x, y, related)
		}
		if c.back().related(y, x) != related {
			t.Errorf("Related(%s) of %d and %d is not the same for both exchanged", c, x, y)
		}
		if related {
			held++
		} else {
			not++
		}
		twice := liftCase{node("*", c.kind, c.kind), c.names, c.rels}
		left, right, _ := l.counts(c.kind)
		if _, _, known := l.counts(twice.kind); known {
			pairs++
			if twice.related(x*left+x, y*right+y) != related {
				t.Errorf("Related(%s) of %d and %d does not go with that of pairs of them", c, x, y)
			}
		}
	})
	checkCount(t, "Related holds", held, 5000)
	checkCount(t, "Related does not hold", not, 4000)
	checkCount(t, "pairs have a known count", pairs, 8000)
}

// lifted calls a function for cases for which RelLift succeeds, with the relation.
func lifted(t *testing.T, seed int, check func(c liftCase, r impl.Rel)) {
	t.Helper()
	held := 0
	for _, c := range liftCases(seed) {
		r, ok := c.lift()
		left, right, known := plainLift(c.names, c.rels).counts(c.kind)
		if ok != (known && left <= impl.RelMax && right <= impl.RelMax) {
			t.Errorf("RelLift(%s) returns %v", c, ok)
		}
		if ok {
			held++
			check(c, r)
		}
	}
	checkCount(t, "RelLift succeeds", held, 2500)
}

func TestPromise56(t *testing.T) {
	d := dice(56)
	related := 0
	lifted(t, 56, func(c liftCase, r impl.Rel) {
		if !impl.RelValid(r) {
			t.Errorf("RelLift(%s) returns %s", c, relText(r))
		}
		for range min(10, r.Left*r.Right) {
			x, y := d.below(r.Left+1), d.below(r.Right+1)
			has := impl.RelHas(r, x, y)
			if has {
				related++
			}
			if c.related(x, y) != has {
				t.Errorf("RelLift(%s) returns %s, and Related of %d and %d is %v", c, relText(r), x, y, !has)
			}
		}
		back, ok := c.back().lift()
		checkRel(t, "RelLift back of "+c.String(), back, ok, backPairs(r))
		checkRel(t, "RelLift of "+c.String(), r, true, plainLift(c.names, c.rels).whole(c.kind))
	})
	checkCount(t, "RelHas holds", related, 4000)
}

func TestPromise57(t *testing.T) {
	several := 0
	lifted(t, 57, func(c liftCase, r impl.Rel) {
		equal, ok := c.with(func(_ string, r impl.Rel) impl.Rel { return equalPairs(r.Left) }).lift()
		checkRel(t, "RelLift of equal numbers to "+c.String(), equal, ok, equalPairs(r.Left))
		if r.Left > 2 {
			several++
		}
	})
	checkCount(t, "there are several elements", several, 1500)
}

func TestPromise58(t *testing.T) {
	held, more := 0, 0
	lifted(t, 58, func(c liftCase, r impl.Rel) {
		if _, negative := signsOf(c.kind, "a"); negative > 0 {
			return
		}
		all, ok := c.with(func(name string, r impl.Rel) impl.Rel {
			if name == "a" {
				return allPairs(r.Left, r.Right)
			}
			return r
		}).lift()
		if !ok || all.Left != r.Left || all.Right != r.Right {
			t.Errorf("RelLift with all numbers related to %s returns %s, %v", c, relText(all), ok)
		}
		held++
		if len(all.Pairs) > len(r.Pairs) {
			more++
		}
		for _, pair := range r.Pairs {
			if !slices.Contains(all.Pairs, pair) {
				t.Errorf("RelLift(%s) has the pair %d, and with all numbers related it has not", c, pair)
			}
		}
	})
	checkCount(t, "a stands nowhere negative", held, 1000)
	checkCount(t, "more is related with all numbers related", more, 500)
}
