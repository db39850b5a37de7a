package tests

import (
	"slices"
	"testing"

	"loop.example/parametric/impl"
)

// typedTerm is a term for which Infer succeeds, with its principal type.
type typedTerm struct {
	s    string
	kind string
}

// typedTerms returns the terms among some for which Infer succeeds, with the types that it tells.
func typedTerms(t *testing.T, all []oneTerm) []typedTerm {
	t.Helper()
	typed := []typedTerm{}
	for _, x := range all {
		s := x.String()
		if kind, ok := impl.Infer(s); ok {
			typed = append(typed, typedTerm{s, kind})
		}
	}
	if len(typed) < len(all)/5 {
		t.Errorf("of %d terms just %d have types", len(all), len(typed))
	}
	return typed
}

func TestPromise22(t *testing.T) {
	unfolded := 0
	for _, x := range typedTerms(t, closedTerms(22)) {
		if canon, _ := impl.TypeCanon(x.kind); canon != x.kind || !impl.InferHas(x.s, x.kind) {
			t.Errorf("Infer(%q) returns %q", x.s, x.kind)
		}
		canon, _ := impl.TermCanon(x.s)
		kind, ok := impl.Infer(canon)
		checkText(t, "Infer of "+canon, kind, ok, x.kind)
		plain, ok := impl.InferUnfold(x.s)
		if !ok {
			continue
		}
		if kind, ok := impl.Infer(plain); ok {
			unfolded++
			if !impl.TypeAlike(kind, x.kind) {
				t.Errorf("Infer of %q is %q and of %q %q", x.s, x.kind, plain, kind)
			}
		}
	}
	if unfolded < 1000 {
		t.Errorf("just %d terms are unfolded", unfolded)
	}
}

// kindsNear returns types that may be instances of a type, and some of which surely are.
func (d *dice) kindsNear(kind string) []string {
	all := []string{kind, "o", "a", "(> o o)", "(> a a)", "(* o o)", "(> a b)", "(> a (> b a))"}
	vars, _ := impl.TypeVars(kind)
	for range 4 {
		by := []string{}
		for range vars {
			by = append(by, d.typeOf([]int{1, 1, 1, 3, 5}[d.below(5)], "oabz").String())
		}
		if near, ok := impl.TypePut(kind, vars, by); ok {
			all = append(all, near)
		}
	}
	if left, right, sign, ok := impl.TypeParts(kind); ok {
		all = append(all, left, right, "("+sign+" "+right+" "+left+")", "(* "+left+" "+right+")", "("+sign+" a "+right+")", "("+sign+" "+left+" a)")
	}
	return all
}

func TestPromise23(t *testing.T) {
	d := dice(23)
	held := 0
	for _, x := range typedTerms(t, closedTerms(23)) {
		for _, kind := range d.kindsNear(x.kind) {
			if !impl.InferHas(x.s, kind) {
				continue
			}
			held++
			if !impl.TypeInstance(x.kind, kind) {
				t.Errorf("InferHas(%q, %q) holds, but the principal type is %q", x.s, kind, x.kind)
			}
			for _, name := range []string{"a", "b"} {
				if more, ok := impl.TypePut(kind, []string{name}, []string{"(> o a)"}); ok && !impl.InferHas(x.s, more) {
					t.Errorf("InferHas(%q, %q) holds and of %q not", x.s, kind, more)
				}
			}
		}
	}
	if held < 10000 {
		t.Errorf("InferHas holds just %d times", held)
	}
}

func TestPromise24(t *testing.T) {
	d := dice(24)
	held, not := 0, 0
	for _, x := range typedTerms(t, closedTerms(24)) {
		principal := kindText(t, read(x.s))
		for _, kind := range d.kindsNear(x.kind) {
			has := impl.InferHas(x.s, kind)
			if has != impl.TypeInstance(principal, kind) {
				t.Errorf("InferHas(%q, %q) is %v with the principal type %q", x.s, kind, has, principal)
			}
			if has {
				held++
			} else {
				not++
			}
		}
	}
	if held < 5000 || not < 5000 {
		t.Errorf("%d types are had and %d not", held, not)
	}
}

func TestPromise25(t *testing.T) {
	typed := 0
	for _, x := range closedTerms(25) {
		s := x.String()
		kind, ok := impl.Infer(s)
		if impl.InferTyped(s) != ok || ok != (kindText(t, x) != "") {
			t.Errorf("InferTyped(%q) is %v and Infer returns %v", s, impl.InferTyped(s), ok)
		}
		if !ok {
			continue
		}
		typed++
		if names, ok := impl.TermFree(s); !ok || len(names) > 0 {
			t.Errorf("InferTyped(%q) holds with the free names %q", s, names)
		}
		want := "(* " + kind + " o)"
		pair, ok := impl.Infer("(pair " + s + " true)")
		if ok != impl.TypeValid(want) || ok && pair != want {
			t.Errorf("Infer of the pair of %q and true returns %q, %v", s, pair, ok)
		}
		first, ok := impl.Infer("(fst (pair " + s + " true))")
		checkText(t, "Infer of fst of the pair with "+s, first, ok, kind)
	}
	if typed < 2000 {
		t.Errorf("just %d terms have types", typed)
	}
}

// letIn reports whether a term has let in it.
func letIn(s string) bool {
	kids, _ := impl.TermKids(s)
	return impl.TermHead(s) == "let" || slices.ContainsFunc(kids, letIn)
}

func TestPromise26(t *testing.T) {
	// Terms with free names and of all sizes are unfolded, too.
	lets := 0
	for _, x := range append(closedTerms(26), someTerms()...) {
		s := x.String()
		plain, ok := impl.InferUnfold(s)
		checkText(t, "InferUnfold of "+s, plain, ok, unfoldText(x))
		if !ok {
			continue
		}
		if letIn(s) {
			lets++
		}
		canon, _ := impl.TermCanon(plain)
		again, ok := impl.InferUnfold(plain)
		if canon != plain || letIn(plain) || !ok || again != plain {
			t.Errorf("InferUnfold(%q) returns %q, and of this %q", s, plain, again)
		}
		before, _ := impl.TermFree(s)
		behind, _ := impl.TermFree(plain)
		if !slices.Equal(slices.Sorted(slices.Values(before)), slices.Sorted(slices.Values(behind))) {
			t.Errorf("%q has the free names %q and unfolded %q", s, before, behind)
		}
		if impl.InferTyped(s) != impl.InferTyped(plain) {
			t.Errorf("InferTyped(%q) is %v and of %q %v", s, impl.InferTyped(s), plain, impl.InferTyped(plain))
		}
	}
	if lets < 3000 {
		t.Errorf("just %d terms with let are unfolded", lets)
	}
}

// pairsOf calls a function for pairs of terms: with types, and some without.
func pairsOf(seed int, check func(a string, b string)) {
	d := dice(seed)
	few := append(smallClosed(4), library()...)
	for _, x := range few {
		for _, y := range few {
			check(x.String(), y.String())
		}
	}
	for range 4000 {
		check(d.closed(1+d.below(14), nil).String(), d.closed(1+d.below(14), nil).String())
	}
}

func TestPromise27(t *testing.T) {
	held := 0
	pairsOf(27, func(a string, b string) {
		both, ok := impl.InferBoth(a, b)
		first, second := kindText(t, read(a)), kindText(t, read(b))
		fits := first != "" && second != "" && impl.TypeSize(first)+impl.TypeSize(second) < impl.TypeMax
		if ok != fits {
			t.Errorf("InferBoth(%q, %q) returns %v", a, b, ok)
		}
		if !ok {
			return
		}
		held++
		left, right, sign, _ := impl.TypeParts(both)
		canon, _ := impl.TypeCanon(both)
		if sign != "*" || canon != both || !impl.TypeAlike(left, first) || !impl.TypeAlike(right, second) {
			t.Errorf("InferBoth(%q, %q) returns %q of %q and %q", a, b, both, first, second)
		}
		all, _ := impl.TypeVars(both)
		some, _ := impl.TypeVars(first)
		more, _ := impl.TypeVars(second)
		if len(all) != len(some)+len(more) {
			t.Errorf("InferBoth(%q, %q) returns %q with %d variables", a, b, both, len(all))
		}
	})
	if held < 2000 {
		t.Errorf("InferBoth succeeds just %d times", held)
	}
}

func TestPromise28(t *testing.T) {
	held := 0
	pairsOf(28, func(a string, b string) {
		result, ok := impl.InferApp(a, b)
		first, second := kindText(t, read(a)), kindText(t, read(b))
		want := ""
		if first != "" && second != "" {
			want = kindText(t, made("app", read(a), read(b)))
		}
		checkText(t, "InferApp of "+a+" and "+b, result, ok, want)
		if !ok {
			return
		}
		held++
		left, right, sign, _ := impl.TypeParts(first)
		if sign != ">" {
			t.Errorf("InferApp(%q, %q) succeeds with the first type %q", a, b, first)
		}
		if _, ok := impl.TypeApart(left, second); !ok && impl.TypeSize(left)+impl.TypeSize(second) <= 12 {
			t.Errorf("InferApp(%q, %q) succeeds, but %q and %q are not joined", a, b, left, second)
		}
		if _, ok := impl.TypeApart(right, result); !ok && impl.TypeSize(right)+impl.TypeSize(result) <= 12 {
			t.Errorf("InferApp(%q, %q) is %q, but is not joined with %q", a, b, result, right)
		}
	})
	if held < 1000 {
		t.Errorf("InferApp succeeds just %d times", held)
	}
}
