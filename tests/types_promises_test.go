package tests

import (
	"slices"
	"strings"
	"testing"

	"loop.example/parametric/impl"
)

func TestPromise1(t *testing.T) {
	for _, x := range someTypes() {
		s := x.String()
		if !impl.TypeValid(s) {
			t.Fatalf("TypeValid(%q) does not hold", s)
		}
		vars, _ := impl.TypeVars(s)
		if _, _, _, ok := impl.TypeParts(s); !ok && s != "o" && !slices.Equal(vars, []string{s}) {
			t.Errorf("%q has no parts, but variables %q", s, vars)
		}
		if n := impl.TypeSize(s); n < 1 || n > impl.TypeMax || n != x.size() {
			t.Errorf("TypeSize(%q) is %d", s, n)
		}
	}
}

func TestPromise2(t *testing.T) {
	for _, x := range someTypes() {
		s := x.String()
		vars, ok := impl.TypeVars(s)
		if !ok || !slices.Equal(vars, x.names()) {
			t.Errorf("TypeVars(%q) returns %q, %v", s, vars, ok)
		}
		sorted := slices.Sorted(slices.Values(vars))
		if len(slices.Compact(sorted)) != len(vars) {
			t.Errorf("TypeVars(%q) has equal texts: %q", s, vars)
		}
		closed := mustPut(t, s, vars, slices.Repeat([]string{"o"}, len(vars)))
		if left, ok := impl.TypeVars(closed); !ok || len(left) != 0 {
			t.Errorf("%q becomes %q with the variables %q", s, closed, left)
		}
	}
}

func TestPromise3(t *testing.T) {
	for _, x := range someTypes() {
		s := x.String()
		left, right, sign, ok := impl.TypeParts(s)
		if ok != (x.size() > 1) {
			t.Errorf("TypeParts(%q) returns %v", s, ok)
		}
		if ok && ("("+sign+" "+left+" "+right+")" != s || impl.TypeSize(left)+impl.TypeSize(right)+1 != impl.TypeSize(s)) {
			t.Errorf("TypeParts(%q) returns %q, %q, %q", s, left, right, sign)
		}
	}
}

func TestPromise4(t *testing.T) {
	for _, x := range someTypes() {
		s := x.String()
		canon, ok := impl.TypeCanon(s)
		checkText(t, "TypeCanon of "+s, canon, ok, x.canon().String())
		again, _ := impl.TypeCanon(canon)
		if again != canon || !impl.TypeAlike(s, canon) || !impl.TypeInstance(s, canon) || !impl.TypeInstance(canon, s) {
			t.Errorf("TypeCanon(%q) returns %q", s, canon)
		}
		vars, _ := impl.TypeVars(canon)
		if strings.Join(vars, "") != allLetters[:len(x.names())] {
			t.Errorf("TypeCanon(%q) has the variables %q", s, vars)
		}
	}
}

func TestPromise5(t *testing.T) {
	all := typesUpTo(5, "oab")
	for _, x := range all {
		for _, y := range all {
			a, b := x.String(), y.String()
			alike := impl.TypeAlike(a, b)
			if alike != (impl.TypeInstance(a, b) && impl.TypeInstance(b, a)) || alike != (x.canon().String() == y.canon().String()) {
				t.Errorf("TypeAlike(%q, %q) is %v", a, b, alike)
			}
		}
	}
}

func TestPromise6(t *testing.T) {
	d := dice(6)
	for _, x := range someTypes() {
		s := x.String()
		if same := mustPut(t, s, nil, nil); same != s {
			t.Errorf("TypePut of nothing in %q returns %q", s, same)
		}
		names, by, puts := []string{}, []string{}, map[string]oneType{}
		for _, name := range []string{"b", "a", "z", "c"}[:d.below(5)] {
			puts[name] = d.typeOf(1+2*d.below(3), "oabz")
			names, by = append(names, name), append(by, puts[name].String())
		}
		want := x.put(puts)
		result, ok := impl.TypePut(s, names, by)
		if ok != (want.size() <= impl.TypeMax) || ok && result != want.String() || !ok && result != "" {
			t.Errorf("TypePut(%q, %q, %q) returns %q, %v", s, names, by, result, ok)
		}
		if ok && !impl.TypeInstance(s, result) {
			t.Errorf("%q is no instance of %q", result, s)
		}
	}
}

func TestPromise7(t *testing.T) {
	all, held := typesUpTo(5, "oab"), 0
	for _, x := range all {
		for _, y := range all {
			a, b := x.String(), y.String()
			if !impl.TypeInstance(a, b) {
				if joined := plainJoin(x, y.primed()); joined != nil && joined.canon().String() == y.canon().String() {
					t.Errorf("TypeInstance(%q, %q) does not hold", a, b)
				}
				continue
			}
			held++
			canon, _ := impl.TypeCanon(b)
			apart := mustPut(t, b, []string{"a", "b"}, []string{"p", "q"})
			if joined, ok := impl.TypeJoin(a, apart); !ok || joined != canon {
				t.Errorf("TypeJoin(%q, %q) returns %q and not %q", a, apart, joined, canon)
			}
			for _, by := range [][]string{{"o", "o"}, {"b", "a"}, {"(> b b)", "a"}, {"c", "(* a (> o a))"}} {
				if more := mustPut(t, b, []string{"a", "b"}, by); !impl.TypeInstance(a, more) {
					t.Errorf("%q is no instance of %q, but %q is one", more, a, b)
				}
			}
		}
	}
	if held < len(all) {
		t.Errorf("there are %d instances among %d types", held, len(all))
	}
}

// joins calls a function for pairs of types, many of which can be joined.
func joins(check func(a string, b string)) {
	for _, x := range typesUpTo(3, "oabc") {
		for _, y := range typesUpTo(5, "oab") {
			check(x.String(), y.String())
		}
	}
	d := dice(8)
	for range 3000 {
		form := d.typeOf(1+2*d.below(7), "abcdef")
		check(form.put(d.puts()).String(), form.put(d.puts()).String())
	}
}

func TestPromise8(t *testing.T) {
	held := 0
	joins(func(a string, b string) {
		joined, ok := impl.TypeJoin(a, b)
		back, okBack := impl.TypeJoin(b, a)
		if joined != back || ok != okBack {
			t.Errorf("TypeJoin of %q and %q returns %q, and exchanged %q", a, b, joined, back)
		}
		if !ok {
			return
		}
		held++
		if !impl.TypeInstance(a, joined) || !impl.TypeInstance(b, joined) {
			t.Errorf("TypeJoin(%q, %q) returns %q", a, b, joined)
		}
	})
	if held < 1000 {
		t.Errorf("just %d types can be joined", held)
	}
	for _, x := range someTypes() {
		joined, ok := impl.TypeJoin(x.String(), x.String())
		checkText(t, "TypeJoin with itself of "+x.String(), joined, ok, x.canon().String())
	}
}

func TestPromise9(t *testing.T) {
	held, both := 0, 0
	joins(func(a string, b string) {
		apart, ok := impl.TypeApart(a, b)
		back, okBack := impl.TypeApart(b, a)
		if apart != back || ok != okBack {
			t.Errorf("TypeApart of %q and %q returns %q, and exchanged %q", a, b, apart, back)
		}
		if !ok {
			return
		}
		held++
		if !impl.TypeInstance(a, apart) || !impl.TypeInstance(b, apart) {
			t.Errorf("TypeApart(%q, %q) returns %q", a, b, apart)
		}
		if joined, ok := impl.TypeJoin(a, b); ok {
			both++
			if !impl.TypeInstance(apart, joined) {
				t.Errorf("TypeJoin(%q, %q) returns %q and TypeApart %q", a, b, joined, apart)
			}
		}
	})
	if held < 1000 || both < 1000 || both >= held {
		t.Errorf("there are %d types joined apart, %d of them also as they are", held, both)
	}
}

// signsOf counts where a variable stands positive and where it stands negative.
func signsOf(x oneType, name string) (int, int) {
	if len(x.parts) == 0 {
		if x.atom == name {
			return 1, 0
		}
		return 0, 0
	}
	leftUp, leftDown := signsOf(x.parts[0], name)
	up, down := signsOf(x.parts[1], name)
	if x.atom == ">" {
		leftUp, leftDown = leftDown, leftUp
	}
	return up + leftUp, down + leftDown
}

func TestPromise10(t *testing.T) {
	for _, x := range someTypes() {
		for _, name := range []string{"a", "b", "z"} {
			s := x.String()
			_, negative := signsOf(x, name)
			if impl.TypePositive(s, name) != (negative == 0) {
				t.Errorf("TypePositive(%q, %q) is %v", s, name, negative != 0)
			}
			if negative > 0 {
				continue
			}
			for _, around := range []string{"(* " + s + " o)", "(* o " + s + ")", "(* " + s + " " + s + ")", "(> o " + s + ")", "(> c " + s + ")"} {
				if impl.TypePositive(around, name) != impl.TypeValid(around) {
					t.Errorf("TypePositive(%q, %q) does not go with %q", around, name, s)
				}
			}
			if around := "(> " + s + " o)"; impl.TypeNegative(around, name) != impl.TypeValid(around) {
				t.Errorf("TypeNegative(%q, %q) does not go with %q", around, name, s)
			}
		}
	}
}

func TestPromise11(t *testing.T) {
	for _, x := range someTypes() {
		for _, name := range []string{"a", "b", "z"} {
			s := x.String()
			positive, _ := signsOf(x, name)
			if impl.TypeNegative(s, name) != (positive == 0) {
				t.Errorf("TypeNegative(%q, %q) is %v", s, name, positive != 0)
			}
			if positive > 0 {
				continue
			}
			vars, _ := impl.TypeVars(s)
			if impl.TypePositive(s, name) == slices.Contains(vars, name) {
				t.Errorf("TypePositive(%q, %q) is %v with the variables %q", s, name, impl.TypePositive(s, name), vars)
			}
			if around := "(> " + s + " o)"; impl.TypePositive(around, name) != impl.TypeValid(around) {
				t.Errorf("TypePositive(%q, %q) does not go with %q", around, name, s)
			}
		}
	}
}

func TestPromise12(t *testing.T) {
	for _, x := range someTypes() {
		s := x.String()
		canon, _ := impl.TypeCanon(s)
		if n := impl.TypeSize(s); n%2 != 1 || n != impl.TypeSize(canon) || n != x.size() {
			t.Errorf("TypeSize(%q) is %d, and of %q %d", s, n, canon, impl.TypeSize(canon))
		}
	}
	for _, s := range badTypes() {
		if n := impl.TypeSize(s); n != -1 {
			t.Errorf("TypeSize(%q) is %d", short(s), n)
		}
	}
}
