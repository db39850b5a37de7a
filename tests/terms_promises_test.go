package tests

import (
	"slices"
	"testing"

	"loop.example/parametric/impl"
)

func TestPromise13(t *testing.T) {
	for _, x := range someTerms() {
		s := x.String()
		if !impl.TermValid(s) || impl.TermHead(s) == "" {
			t.Fatalf("TermValid(%q) is %v and TermHead %q", s, impl.TermValid(s), impl.TermHead(s))
		}
		kids, ok := impl.TermKids(s)
		if !ok {
			t.Errorf("TermKids(%q) fails", s)
		}
		for _, kid := range kids {
			if !impl.TermValid(kid) || impl.TermSize(kid) >= impl.TermSize(s) {
				t.Errorf("TermKids(%q) has %q", s, kid)
			}
		}
		if impl.TermValid("(lam x "+s+")") != (x.size()+2 <= impl.TermMax) {
			t.Errorf("a lam around %q is taken wrongly", s)
		}
	}
}

func TestPromise14(t *testing.T) {
	count := map[string]int{"name": 0, "truth": 0, "lam": 1, "fst": 1, "snd": 1, "if": 3, "app": 2, "pair": 2, "let": 2}
	seen := map[string]bool{}
	for _, x := range someTerms() {
		s := x.String()
		head := impl.TermHead(s)
		seen[head] = true
		want, known := count[head]
		if kids, ok := impl.TermKids(s); !ok || !known || len(kids) != want || head != x.kind() {
			t.Errorf("%q: TermHead returns %q and TermKids %q, %v", s, head, kids, ok)
		}
	}
	if len(seen) != len(count) {
		t.Errorf("just the heads %v have been seen", seen)
	}
}

func TestPromise15(t *testing.T) {
	for _, x := range someTerms() {
		s := x.String()
		inKids := []string{}
		kids, _ := impl.TermKids(s)
		for _, kid := range kids {
			names, ok := impl.TermFree(kid)
			if !ok {
				t.Errorf("TermFree(%q) fails", kid)
			}
			inKids = append(inKids, names...)
		}
		names, _ := impl.TermFree(s)
		for _, name := range names {
			if !slices.Contains(inKids, name) && impl.TermHead(s) != "name" {
				t.Errorf("%q is free in %q, but not in its parts", name, s)
			}
		}
		for _, name := range inKids {
			if !slices.Contains(names, name) && name != x.name {
				t.Errorf("%q is free in a part of %q, but not in it", name, s)
			}
		}
	}
}

func TestPromise16(t *testing.T) {
	for _, x := range someTerms() {
		s := x.String()
		names, ok := impl.TermFree(s)
		if !ok || len(slices.Compact(slices.Sorted(slices.Values(names)))) != len(names) {
			t.Errorf("TermFree(%q) returns %q, %v", s, names, ok)
		}
		left := s
		for _, name := range names {
			if n := impl.TermUses(s, name); n < 1 || n != x.uses(name) {
				t.Errorf("TermUses(%q, %q) is %d", s, name, n)
			}
			put, ok := impl.TermPut(left, name, "true")
			if !ok {
				t.Errorf("TermPut(%q, %q, true) fails", left, name)
			}
			left = put
		}
		if names, ok := impl.TermFree(left); !ok || len(names) != 0 {
			t.Errorf("%q becomes %q with the free names %q", s, left, names)
		}
	}
}

func TestPromise17(t *testing.T) {
	for _, x := range someTerms() {
		s := x.String()
		canon, ok := impl.TermCanon(s)
		checkText(t, "TermCanon of "+s, canon, ok, x.canon().String())
		again, ok := impl.TermCanon(canon)
		checkText(t, "TermCanon of "+canon, again, ok, canon)
		names, _ := impl.TermFree(s)
		kept, _ := impl.TermFree(canon)
		if !impl.TermAlike(s, canon) || !slices.Equal(names, kept) || impl.TermSize(s) != impl.TermSize(canon) {
			t.Errorf("TermCanon(%q) returns %q", s, canon)
		}
	}
}

// checkAlike compares TermAlike of two terms with what their trees tell, and with what else is promised.
func checkAlike(t *testing.T, x oneTerm, y oneTerm) bool {
	t.Helper()
	a, b := x.String(), y.String()
	held := impl.TermAlike(a, b)
	if held != alike(x, y, nil, nil) || held != impl.TermAlike(b, a) {
		t.Errorf("TermAlike(%q, %q) is %v, and exchanged %v", a, b, held, impl.TermAlike(b, a))
	}
	first, _ := impl.TermCanon(a)
	second, _ := impl.TermCanon(b)
	if held != (first == second) {
		t.Errorf("TermAlike(%q, %q) is %v with %q and %q", a, b, held, first, second)
	}
	if !held {
		return false
	}
	left, _ := impl.TermFree(a)
	right, _ := impl.TermFree(b)
	if !slices.Equal(left, right) || impl.TermHead(a) != impl.TermHead(b) || impl.TermSize(a) != impl.TermSize(b) {
		t.Errorf("%q and %q are alike, but have other free names, heads or sizes", a, b)
	}
	return true
}

func TestPromise18(t *testing.T) {
	held, all := 0, []oneTerm{}
	for n := 1; n <= 6; n++ {
		all = append(all, termsOfSize(n, "lam app let", []string{"x", "y"}, []string{"x", "y"})...)
	}
	for _, x := range all {
		for _, y := range all {
			if checkAlike(t, x, y) {
				held++
			}
		}
	}
	if held <= len(all)*3/2 {
		t.Errorf("of %d terms just %d pairs are alike", len(all), held)
	}
	d := dice(18)
	for _, x := range largerTerms(18) {
		names := []string{"x0", "x1", "y", "f"}
		// Names that are bound are chosen anew: some of the terms stay alike, in others names are captured.
		checkAlike(t, x, x.withNames(func() string { return names[d.below(4)] }))
		if !checkAlike(t, x, x.withNames(namesOf("n", nil))) {
			t.Errorf("%q is not alike to itself with other names", x)
		}
	}
}

func checkPut(t *testing.T, x oneTerm, name string, y oneTerm) {
	t.Helper()
	s, by := x.String(), y.String()
	result, ok := impl.TermPut(s, name, by)
	call := "TermPut of " + s + ", " + name + ", " + by
	checkText(t, call, result, ok, putText(x, name, y))
	if !ok {
		return
	}
	uses := impl.TermUses(s, name)
	if impl.TermSize(result) != impl.TermSize(s)+uses*(impl.TermSize(by)-1) {
		t.Errorf("%s has %d atoms", call, impl.TermSize(result))
	}
	old, _ := impl.TermFree(s)
	more, _ := impl.TermFree(by)
	names, _ := impl.TermFree(result)
	was := slices.Contains(old, name)
	if slices.Contains(names, name) != (was && slices.Contains(more, name)) {
		t.Errorf("%s returns %q", call, result)
	}
	for _, other := range more {
		if was && !slices.Contains(names, other) {
			t.Errorf("%s returns %q, in which %q is not free", call, result, other)
		}
	}
	for _, other := range names {
		if !slices.Contains(old, other) && !(was && slices.Contains(more, other)) {
			t.Errorf("%s returns %q, in which %q is free", call, result, other)
		}
	}
}

func TestPromise19(t *testing.T) {
	puts := []oneTerm{word("x"), word("x0"), word("x1"), word("true"), made("app", word("x0"), word("y")), lam("x", made("app", word("x"), word("y"))), let("x0", word("x0"), word("x"))}
	for _, x := range smallTerms() {
		for _, y := range puts {
			checkPut(t, x, "y", y)
		}
	}
	d := dice(19)
	for _, x := range largerTerms(19) {
		for range 2 {
			name := []string{"x", "x0", "x1", "x00", "y"}[d.below(5)]
			checkPut(t, x, name, d.term(1+d.below(12), []string{"x", "x0", "x1", "x2", "y", "z9"}))
		}
	}
}

func TestPromise20(t *testing.T) {
	for _, x := range someTerms() {
		s := x.String()
		names, _ := impl.TermFree(s)
		for _, name := range []string{"x", "y", "x0", "x1", "x00", "z999"} {
			n := impl.TermUses(s, name)
			if n != x.uses(name) || (n > 0) != slices.Contains(names, name) {
				t.Errorf("TermUses(%q, %q) is %d with the free names %q", s, name, n, names)
			}
			want := 0
			if x.size()+2 > impl.TermMax {
				want = -1
			}
			if n := impl.TermUses("(lam "+name+" "+s+")", name); n != want {
				t.Errorf("TermUses of %q bound in %q is %d", name, s, n)
			}
		}
	}
}

func TestPromise21(t *testing.T) {
	for _, x := range someTerms() {
		s := x.String()
		n, sum := impl.TermSize(s), 0
		kids, _ := impl.TermKids(s)
		for _, kid := range kids {
			sum += impl.TermSize(kid)
		}
		if n != x.size() || len(kids) == 0 && n != 1 || n <= sum {
			t.Errorf("TermSize(%q) is %d, and of its parts %d", s, n, sum)
		}
	}
	for _, s := range badTerms() {
		if n := impl.TermSize(s); n != -1 {
			t.Errorf("TermSize(%q) is %d", short(s), n)
		}
	}
}
