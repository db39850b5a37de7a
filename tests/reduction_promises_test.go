package tests

import (
	"slices"
	"testing"

	"loop.example/parametric/impl"
)

// checkCount fails if something that is promised has hardly been seen.
func checkCount(t *testing.T, what string, n int, least int) {
	t.Helper()
	if n < least {
		t.Errorf("%s just %d times", what, n)
	}
}

func TestPromise29(t *testing.T) {
	d := dice(29)
	stepped, typed := 0, 0
	for _, x := range append(reducedTerms(29), someTerms()...) {
		s := x.String()
		step, ok := impl.Step(s)
		checkText(t, "Step of "+s, step, ok, x.stepText(0))
		if !ok {
			continue
		}
		stepped++
		if canon, ok := impl.TermCanon(step); !ok || canon != step {
			t.Errorf("Step(%q) returns %q", s, step)
		}
		names, _ := impl.TermFree(s)
		left, _ := impl.TermFree(step)
		for _, name := range left {
			if !slices.Contains(names, name) {
				t.Errorf("Step(%q) returns %q, in which %q is free", s, step, name)
			}
		}
		kinds := d.kindsOf(s)
		typed += len(kinds)
		checkKept(t, "Step of "+s, step, kinds)
	}
	checkCount(t, "Step succeeds", stepped, 5000)
	checkCount(t, "a type is kept", typed, 10000)
}

// checkOneMore checks what is promised of one step more than a number of steps.
func checkOneMore(t *testing.T, s string, n int) {
	t.Helper()
	result, made, ok := impl.StepMany(s, n)
	if !ok || made < 0 || made > n {
		t.Errorf("StepMany(%q, %d) returns %q, %d, %v", short(s), n, short(result), made, ok)
	}
	step, more := impl.Step(result)
	if made < n && more {
		t.Errorf("StepMany(%q, %d) makes %d steps, and there is one more", short(s), n, made)
	}
	if n == impl.StepsMax {
		checkNotMany(t, s, n+1)
		return
	}
	next, count, ok := impl.StepMany(s, n+1)
	if more && (!ok || next != step || count != made+1) {
		t.Errorf("StepMany(%q, %d) returns %q, %d, %v and not %q", short(s), n+1, short(next), count, ok, short(step))
	}
	if !more && (!ok || next != result || count != made) {
		t.Errorf("StepMany(%q, %d) returns %q, %d, %v without a step more", short(s), n+1, short(next), count, ok)
	}
}

func TestPromise30(t *testing.T) {
	all := reducedTerms(30)
	for _, s := range []string{omegaTerm, "(lam y " + omegaTerm + ")", farTerm(299), farTerm(300), farTerm(301)} {
		all = append(all, read(s))
	}
	far := 0
	for _, x := range all {
		s := x.String()
		walk := x.walk(impl.StepsMax)
		for _, n := range []int{0, 1, 2, 3, 5, 9, 20, 298, 299, impl.StepsMax} {
			made := min(n, len(walk)-1)
			checkMany(t, s, n, walk[made].String(), made)
			checkOneMore(t, s, n)
		}
		if len(walk) > 5 {
			far++
		}
	}
	checkCount(t, "there are more than 4 steps", far, 600)
}

func TestPromise31(t *testing.T) {
	normal := 0
	for _, x := range append(reducedTerms(31), someTerms()...) {
		s := x.String()
		if impl.NormalIs(s) != (len(x.redexes()) == 0) {
			t.Errorf("NormalIs(%q) is %v", short(s), impl.NormalIs(s))
		}
		if !impl.NormalIs(s) {
			continue
		}
		normal++
		step, ok := impl.Step(s)
		checkText(t, "Step of "+s, step, ok, "")
		canon, _ := impl.TermCanon(s)
		result, ok := impl.NormalOf(s)
		checkText(t, "NormalOf of "+s, result, ok, canon)
		if n := impl.RedexCount(s); n != 0 {
			t.Errorf("RedexCount(%q) is %d", s, n)
		}
	}
	checkCount(t, "NormalIs holds", normal, 1500)
}

func TestPromise32(t *testing.T) {
	d := dice(32)
	normal, typed, others := 0, 0, 0
	for _, x := range append(reducedTerms(32), someTerms()...) {
		s := x.String()
		result, ok := impl.NormalOf(s)
		checkText(t, "NormalOf of "+s, result, ok, x.normalText())
		if !ok {
			continue
		}
		normal++
		again, ok := impl.NormalOf(result)
		checkText(t, "NormalOf of "+result, again, ok, result)
		if !impl.NormalIs(result) {
			t.Errorf("NormalOf(%q) returns %q", short(s), short(result))
		}
		kinds := d.kindsOf(s)
		typed += len(kinds)
		checkKept(t, "NormalOf of "+s, result, kinds)
		// Whichever redex is replaced first, the last one among them.
		for k := range impl.RedexCount(s) {
			step, _ := impl.StepInside(s, k)
			if other, ok := impl.NormalOf(step); ok {
				others++
				checkText(t, "NormalOf of "+step, other, ok, result)
			}
		}
	}
	checkCount(t, "NormalOf succeeds", normal, 10000)
	checkCount(t, "a type is kept", typed, 10000)
	checkCount(t, "another redex is replaced first", others, 10000)
}

func TestPromise33(t *testing.T) {
	typed, not := 0, 0
	for _, x := range append(reducedTerms(33), read(farTerm(299)), read(farTerm(300)), read(farTerm(301)), read(farTerm(302))) {
		s := x.String()
		result, _, _ := impl.StepMany(s, impl.StepsMax)
		normal, ok := impl.NormalOf(s)
		if ok != impl.NormalIs(result) || ok && !impl.TermAlike(normal, result) {
			t.Errorf("NormalOf(%q) returns %q, %v and StepMany %q", short(s), short(normal), ok, short(result))
		}
		if impl.InferTyped(s) {
			typed++
			if !ok {
				not++
			}
		}
	}
	checkCount(t, "InferTyped holds", typed, 2000)
	checkCount(t, "a term with a type comes to no normal one", not, 2)
}

// checkEqual checks what is promised of equal terms.
func checkEqual(t *testing.T, a string, b string) {
	t.Helper()
	first, ok := impl.NormalOf(a)
	second, too := impl.NormalOf(b)
	if !impl.TermEqual(b, a) || !ok || !too || first != second {
		t.Errorf("TermEqual(%q, %q) holds with %q and %q", short(a), short(b), short(first), short(second))
	}
	for _, form := range [][2]string{{"(pair ", " true)"}, {"(pair true ", ")"}, {"(app ", " (lam x x))"}, {"(app (lam x (pair x x)) ", ")"}, {"(app y ", ")"}} {
		left, right := form[0]+a+form[1], form[0]+b+form[1]
		first, ok := impl.NormalOf(left)
		second, too := impl.NormalOf(right)
		if ok && too && (first != second || !impl.TermEqual(left, right)) {
			t.Errorf("%q comes to %q and %q to %q", short(left), short(first), short(right), short(second))
		}
	}
}

func TestPromise34(t *testing.T) {
	held, not := 0, 0
	known := map[string]string{}
	normal := func(x oneTerm) string {
		s := x.String()
		if _, ok := known[s]; !ok {
			known[s] = x.normalText()
		}
		return known[s]
	}
	check := func(a oneTerm, b oneTerm) {
		first, second := normal(a), normal(b)
		equal := impl.TermEqual(a.String(), b.String())
		if equal != (first != "" && first == second) {
			t.Errorf("TermEqual(%q, %q) is %v with %q and %q", short(a.String()), short(b.String()), equal, short(first), short(second))
		}
		if !equal {
			not++
			return
		}
		held++
		checkEqual(t, a.String(), b.String())
	}
	some := calculations()
	for _, x := range some[:50] {
		for _, y := range some[:50] {
			check(x, y)
		}
	}
	d := dice(34)
	for _, x := range reducedTerms(34) {
		check(x, x.withNames(namesOf("n", nil)))
		check(x, d.busy(1+d.below(6), nil))
		if count := len(x.redexes()); count > 0 {
			next, _ := x.stepped(d.below(count))
			check(x, next)
		}
	}
	checkCount(t, "TermEqual holds", held, 10000)
	checkCount(t, "TermEqual does not hold", not, 10000)
}

func TestPromise35(t *testing.T) {
	redexes := 0
	for _, x := range append(reducedTerms(35), someTerms()...) {
		s := x.String()
		n, sum := impl.RedexCount(s), 0
		kids, _ := impl.TermKids(s)
		for _, kid := range kids {
			sum += impl.RedexCount(kid)
		}
		if x.isRedex() {
			sum++
			redexes++
		}
		if n != sum || n != len(x.redexes()) {
			t.Errorf("RedexCount(%q) is %d and not %d", short(s), n, sum)
		}
		canon, _ := impl.TermCanon(s)
		if other := impl.RedexCount(canon); other != n {
			t.Errorf("RedexCount(%q) is %d and of %q %d", short(s), n, short(canon), other)
		}
		step, ok := impl.StepInside(s, n)
		checkText(t, "StepInside of "+s, step, ok, "")
	}
	checkCount(t, "a term is a redex", redexes, 5000)
	for _, s := range badTerms() {
		if n := impl.RedexCount(s); n != -1 {
			t.Errorf("RedexCount(%q) is %d", short(s), n)
		}
	}
}

func TestPromise36(t *testing.T) {
	d := dice(36)
	stepped, typed := 0, 0
	for _, x := range append(reducedTerms(36), someTerms()...) {
		s := x.String()
		count, kinds := impl.RedexCount(s), d.kindsOf(s)
		for k := -2; k <= count+2; k++ {
			result, ok := impl.StepInside(s, k)
			checkText(t, "StepInside of "+s, result, ok, x.stepText(k))
			if k == 0 {
				step, first := impl.Step(s)
				if step != result || first != ok {
					t.Errorf("StepInside(%q, 0) returns %q, %v and Step %q, %v", short(s), short(result), ok, short(step), first)
				}
			}
			if !ok {
				continue
			}
			stepped++
			typed += len(kinds)
			checkKept(t, "StepInside of "+s, result, kinds)
			canon, _ := impl.TermCanon(result)
			if k < 0 || k >= count || canon != result {
				t.Errorf("StepInside(%q, %d) returns %q of %d redexes", short(s), k, short(result), count)
			}
		}
	}
	checkCount(t, "StepInside succeeds", stepped, 20000)
	checkCount(t, "a type is kept", typed, 20000)
}
