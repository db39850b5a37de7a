package tests

import (
	"slices"
	"strings"
	"testing"

	"loop.example/parametric/impl"
)

// checkText compares a text result and its success with what is wanted; "" stands for a failure.
func checkText(t *testing.T, call string, got string, ok bool, want string) {
	t.Helper()
	if got != want || ok != (want != "") {
		t.Errorf("%s returns %q, %v and not %q", short(call), short(got), ok, want)
	}
}

func TestConstantsOfTypes(t *testing.T) {
	if impl.TextMax != 6000 || impl.TypeMax != 40 || impl.PutsMax != 26 {
		t.Errorf("the constants are %d, %d and %d", impl.TextMax, impl.TypeMax, impl.PutsMax)
	}
}

func TestTypesThatAreTexts(t *testing.T) {
	good := map[string]int{
		"o": 1, "a": 1, "n": 1, "p": 1, "z": 1, "(> a b)": 3, "(* a b)": 3, "(> o o)": 3, "(* o z)": 3,
		"(> (> a b) c)": 5, "(* (> a b) (* o o))": 7, "(> a (> b (> c (* d o))))": 9,
		chain(19, "a", "a"): 39, chain(19, "o", "o"): 39, chain(18, "a", "a"): 37, "(* " + chain(18, "a", "b") + " o)": 39,
		row("abcdefghijklmnpqrstu"): 39,
	}
	for s, size := range good {
		if !impl.TypeValid(s) || impl.TypeSize(s) != size {
			t.Errorf("%q: TypeValid returns %v and TypeSize %d", s, impl.TypeValid(s), impl.TypeSize(s))
		}
	}
}

func TestAllTextsOfOneByte(t *testing.T) {
	for c := range 256 {
		s := string([]byte{byte(c)})
		small := c >= 'a' && c <= 'z'
		vars, ok := impl.TypeVars(s)
		if impl.TypeValid(s) != small || ok != small {
			t.Errorf("%q: TypeValid returns %v and TypeVars %v", s, impl.TypeValid(s), ok)
		}
		if (len(vars) == 1) != (small && c != 'o') {
			t.Errorf("%q: TypeVars returns %q", s, vars)
		}
		_, put := impl.TypePut("(> a b)", []string{s}, []string{"o"})
		if put != (small && c != 'o') || impl.TypePositive("(> a b)", s) != (put && c != 'a') || impl.TypeNegative("(> a b)", s) != (put && c != 'b') {
			t.Errorf("%q is taken wrongly as a variable", s)
		}
	}
}

// Each text that comes of a type by taking away, adding or changing one byte is a type just if its form is one.
func TestTextsNearTypes(t *testing.T) {
	known := map[string]bool{}
	for _, x := range typesUpTo(5, "oa") {
		known[x.String()] = true
	}
	for s := range known {
		for i := range len(s) + 1 {
			for _, c := range []string{"", " ", "(", ")", "a", "o", ">", "*"} {
				for _, near := range []string{s[:i] + c + s[i:], s[:i] + c + s[min(i+1, len(s)):]} {
					if impl.TypeValid(near) != known[near] {
						t.Errorf("TypeValid(%q) is %v", near, !known[near])
					}
				}
			}
		}
	}
}

func TestTextsThatAreNoTypes(t *testing.T) {
	for _, s := range badTypes() {
		if impl.TypeValid(s) || impl.TypeSize(s) != -1 {
			t.Errorf("%q is taken as a type of %d atoms", short(s), impl.TypeSize(s))
		}
		if vars, ok := impl.TypeVars(s); ok || len(vars) != 0 {
			t.Errorf("TypeVars(%q) returns %q, %v", short(s), vars, ok)
		}
		if l, r, sign, ok := impl.TypeParts(s); ok || l != "" || r != "" || sign != "" {
			t.Errorf("TypeParts(%q) returns %q, %q, %q, %v", short(s), l, r, sign, ok)
		}
		canon, ok := impl.TypeCanon(s)
		checkText(t, "TypeCanon of "+s, canon, ok, "")
		if impl.TypeAlike(s, s) || impl.TypeAlike(s, "a") || impl.TypeAlike("a", s) {
			t.Errorf("TypeAlike takes %q", short(s))
		}
		if impl.TypeInstance(s, s) || impl.TypeInstance(s, "a") || impl.TypeInstance("a", s) {
			t.Errorf("TypeInstance takes %q", short(s))
		}
		if impl.TypePositive(s, "a") || impl.TypeNegative(s, "a") || impl.TypePositive("b", s) || impl.TypeNegative("b", s) {
			t.Errorf("TypePositive or TypeNegative takes %q", short(s))
		}
		checkNoJoin(t, s)
		checkNoPut(t, s)
	}
}

func checkNoJoin(t *testing.T, s string) {
	t.Helper()
	for _, pair := range [][2]string{{s, s}, {s, "a"}, {"a", s}, {s, "(> a b)"}, {"(> a b)", s}} {
		joined, ok := impl.TypeJoin(pair[0], pair[1])
		checkText(t, "TypeJoin with "+s, joined, ok, "")
		joined, ok = impl.TypeApart(pair[0], pair[1])
		checkText(t, "TypeApart with "+s, joined, ok, "")
	}
}

func checkNoPut(t *testing.T, s string) {
	t.Helper()
	result, ok := impl.TypePut(s, nil, nil)
	checkText(t, "TypePut in "+s, result, ok, "")
	result, ok = impl.TypePut("b", []string{"a"}, []string{s})
	checkText(t, "TypePut of "+s, result, ok, "")
	result, ok = impl.TypePut("b", []string{s}, []string{"a"})
	checkText(t, "TypePut for "+s, result, ok, "")
}

func TestVariablesOfTypes(t *testing.T) {
	cases := map[string]string{
		"o": "", "a": "a", "z": "z", "(> o o)": "", "(> b a)": "b a", "(* b (> a b))": "b a", "(> (> c o) (* a c))": "c a",
		row("zyxwvutsrqpnmlkjihgf"): "z y x w v u t s r q p n m l k j i h g f",
	}
	for s, want := range cases {
		if vars, ok := impl.TypeVars(s); !ok || strings.Join(vars, " ") != want {
			t.Errorf("TypeVars(%q) returns %q, %v", s, vars, ok)
		}
	}
}

func TestPartsOfTypes(t *testing.T) {
	cases := [][4]string{
		{"(> a b)", "a", "b", ">"}, {"(* a b)", "a", "b", "*"}, {"(> (* o b) (> a o))", "(* o b)", "(> a o)", ">"},
		{"(* (> c a) c)", "(> c a)", "c", "*"}, {chain(19, "b", "a"), "b", chain(18, "b", "a"), ">"},
	}
	for _, c := range cases {
		if l, r, sign, ok := impl.TypeParts(c[0]); !ok || l != c[1] || r != c[2] || sign != c[3] {
			t.Errorf("TypeParts(%q) returns %q, %q, %q, %v", c[0], l, r, sign, ok)
		}
	}
	for _, s := range []string{"o", "a", "z"} {
		if l, r, sign, ok := impl.TypeParts(s); ok || l != "" || r != "" || sign != "" {
			t.Errorf("TypeParts(%q) returns %q, %q, %q, %v", s, l, r, sign, ok)
		}
	}
}

func TestCanonicalTypes(t *testing.T) {
	cases := map[string]string{
		"o": "o", "a": "a", "z": "a", "(> c (* a c))": "(> a (* b a))", "(> b a)": "(> a b)", "(> a b)": "(> a b)", "(* o z)": "(* o a)",
		"(> (> b a) (* a b))": "(> (> a b) (* b a))", "(> b b)": "(> a a)",
		row("zyxwvutsrqpnmlkjihgf"): row("abcdefghijklmnpqrstu"), row("pnmlkjihgfedcba"): row("abcdefghijklmnp"),
	}
	for s, want := range cases {
		canon, ok := impl.TypeCanon(s)
		checkText(t, "TypeCanon of "+s, canon, ok, want)
	}
}

func TestAlikeTypes(t *testing.T) {
	for _, c := range [][2]string{{"a", "b"}, {"o", "o"}, {"(> a b)", "(> b a)"}, {"(> a a)", "(> z z)"}, {"(* (> p q) p)", "(* (> n m) n)"}} {
		if !impl.TypeAlike(c[0], c[1]) {
			t.Errorf("%q and %q are not alike", c[0], c[1])
		}
	}
	for _, c := range [][2]string{{"a", "o"}, {"o", "a"}, {"(> a b)", "(> a a)"}, {"(> a a)", "(> a b)"}, {"(> a b)", "(* a b)"}, {"a", "(> a a)"}, {"(> a (> b a))", "(> a (> b b))"}} {
		if impl.TypeAlike(c[0], c[1]) {
			t.Errorf("%q and %q are alike", c[0], c[1])
		}
	}
}

func TestPutsForVariables(t *testing.T) {
	big, bigger := chain(18, "a", "a"), chain(19, "a", "a")
	cases := []struct{ s, names, by, want string }{
		{"(> a b)", "a", "(* b b)", "(> (* b b) b)"},
		{"(> a b)", "a,b", "b,a", "(> b a)"},
		{"(> a (* b a))", "b,a", "(> a a),(* b o)", "(> (* b o) (* (> a a) (* b o)))"},
		{"(> a b)", "z", "o", "(> a b)"},
		{"(> c d)", "d", "o", "(> c o)"},
		{"o", "a", "b", "o"},
		{"z", "z", "z", "z"},
		{"(> o b)", "b", big, "(> o " + big + ")"},
		{"b", "b", bigger, bigger},
		{"(> o b)", "b", bigger, ""},
		{"(* b b)", "b", big, ""},
		{"(> o o)", "b", bigger, "(> o o)"},
		{chain(19, "b", "b"), "b", bigger, ""},
		{"(* b b)", "b", chain(9, "a", "a"), "(* " + chain(9, "a", "a") + " " + chain(9, "a", "a") + ")"},
		{"(* b b)", "b", chain(10, "a", "a"), ""},
		{"(> a b)", "a,a", "o,o", ""},
		{"(> a b)", "c,c", "o,o", ""},
		{"(> a b)", "a,b,a", "o,o,o", ""},
		{"(> a b)", "o", "a", ""},
		{"(> a b)", "a,o", "a,o", ""},
		{"(> a b)", "(> a b)", "a", ""},
		{"(> a b)", "ab", "a", ""},
		{"(> a b)", "A", "a", ""},
		{"(> a b)", "a,b", "a", ""},
		{"(> a b)", "a", "a,b", ""},
		{"(> a b)", "a", "(> a)", ""},
		{"(> a b)", "c", "(> a  b)", ""},
		{"(> a b)", "c", " a", ""},
		{"(> a)", "a", "o", ""},
	}
	for _, c := range cases {
		result, ok := impl.TypePut(c.s, strings.Split(c.names, ","), strings.Split(c.by, ","))
		checkText(t, "TypePut of "+c.s+", "+c.names+", "+c.by, result, ok, c.want)
	}
}

func TestPutsWithListsOfOddLengths(t *testing.T) {
	for _, c := range [][2][]string{{nil, nil}, {{}, nil}, {nil, {}}, {{}, {}}} {
		result, ok := impl.TypePut("(> b a)", c[0], c[1])
		checkText(t, "TypePut of nothing", result, ok, "(> b a)")
	}
	for _, c := range [][2][]string{{{"a"}, nil}, {nil, {"a"}}, {{""}, {"a"}}, {{"a"}, {""}}} {
		result, ok := impl.TypePut("(> b a)", c[0], c[1])
		checkText(t, "TypePut of "+strings.Join(c[0], ","), result, ok, "")
	}
	names := strings.Split(allLetters, "")
	result, ok := impl.TypePut("(> z (* p n))", names, slices.Repeat([]string{"o"}, 25))
	checkText(t, "TypePut for all variables", result, ok, "(> o (* o o))")
	for _, more := range []string{"a", "o", "z", "A", "ab", ""} {
		for times := 1; times < 4; times++ {
			list := append(slices.Clone(names), slices.Repeat([]string{more}, times)...)
			result, ok := impl.TypePut("(> z (* p n))", list, slices.Repeat([]string{"o"}, len(list)))
			checkText(t, "TypePut with more texts than variables", result, ok, "")
		}
	}
	long := slices.Repeat(names, 4000)
	result, ok = impl.TypePut("(> z (* p n))", long, long)
	checkText(t, "TypePut with very many texts", result, ok, "")
}

func TestInstancesOfTypes(t *testing.T) {
	for _, c := range [][2]string{
		{"a", "o"}, {"a", "a"}, {"a", "z"}, {"o", "o"}, {"a", "(> a a)"}, {"(> a b)", "(> b a)"}, {"(> a b)", "(> o o)"}, {"(> a a)", "(> (* b c) (* b c))"},
		{"(> a (* b a))", "(> b (* a b))"}, {"(* a b)", "(* b (> a b))"}, {"(> a b)", chain(19, "a", "a")}, {"(> a b)", "(> (> a b) (> a b))"},
	} {
		if !impl.TypeInstance(c[0], c[1]) {
			t.Errorf("%q is no instance of %q", c[1], c[0])
		}
	}
	for _, c := range [][2]string{
		{"o", "a"}, {"(> a a)", "(> o b)"}, {"(> a a)", "(> a b)"}, {"(> a b)", "(* a b)"}, {"(> a b)", "a"}, {"(> a b)", "o"}, {"o", "(> a b)"},
		{"(> a o)", "(> o a)"}, {"(> a (* b a))", "(> a (* a b))"}, {"(> a a)", "(> (* b c) (* c b))"}, {"(* (> a b) a)", "(* (> o o) b)"},
	} {
		if impl.TypeInstance(c[0], c[1]) {
			t.Errorf("%q is an instance of %q", c[1], c[0])
		}
	}
}

func TestVariablesThatStandPositive(t *testing.T) {
	// Both letters tell whether TypePositive and TypeNegative hold for the variable a.
	cases := map[string]string{
		"a": "yn", "o": "yy", "b": "yy", "(> b o)": "yy", "(> o a)": "yn", "(> a o)": "ny", "(> a a)": "nn", "(* a a)": "yn", "(* o a)": "yn", "(* a b)": "yn",
		"(> (> a o) o)": "yn", "(> (> a o) a)": "yn", "(> (> o a) o)": "ny", "(> (* a a) o)": "ny", "(> (* o (> a b)) b)": "yn",
		"(* a (> a o))": "nn", "(* (> a o) (> a o))": "ny", "(> (> (> a o) o) o)": "ny", "(> (> (> a o) o) a)": "nn", "(> b (> a b))": "ny",
		"(> (> a b) (> (> a c) a))": "yn", chain(19, "a", "o"): "ny", chain(19, "o", "a"): "yn", chain(19, "a", "a"): "nn",
	}
	for s, want := range cases {
		got := map[bool]string{true: "y", false: "n"}[impl.TypePositive(s, "a")] + map[bool]string{true: "y", false: "n"}[impl.TypeNegative(s, "a")]
		if got != want {
			t.Errorf("TypePositive and TypeNegative of %q are %s and not %s", s, got, want)
		}
	}
	for _, name := range []string{"o", "", "A", "aa", "a ", " a", "(> a a)", "(* a b)", "1", "\xff"} {
		if impl.TypePositive("a", name) || impl.TypeNegative("a", name) || impl.TypePositive("o", name) || impl.TypeNegative("o", name) {
			t.Errorf("%q is taken as a variable", name)
		}
	}
}

func TestArgumentsAndResultsAreApart(t *testing.T) {
	names, by := []string{"a", "b", "c"}, []string{"b", "c", "a"}
	mustPut(t, "(> a (> b c))", names, by)
	mustPut(t, "(> a (> b c))", names[:2], by[:2])
	if strings.Join(names, "") != "abc" || strings.Join(by, "") != "bca" {
		t.Errorf("TypePut changes its arguments to %q and %q", names, by)
	}
	first, _ := impl.TypeVars("(> c (> b a))")
	second, _ := impl.TypeVars("(> c (> b a))")
	for i := range first[:cap(first)] {
		first[:cap(first)][i] = "z"
	}
	if third, _ := impl.TypeVars("(> c (> b a))"); strings.Join(second, "") != "cba" || strings.Join(third, "") != "cba" {
		t.Errorf("results of TypeVars share memory: %q and %q", second, third)
	}
}
